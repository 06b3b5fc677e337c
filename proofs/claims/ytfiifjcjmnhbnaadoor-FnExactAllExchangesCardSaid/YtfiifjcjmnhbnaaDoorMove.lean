/- Contracts: one move on a line. -/
import Derived.Test.YtfiifjcjmnhbnaaDoorImp
import Derived.Deep.RegionHeld3
import Derived.Laws.StructEq
namespace Go.Proofs.YtfiifjcjmnhbnaaDoor
open Go.RowKit

/-- The sign of a cell, 0 outside. -/
def sgAt (s : ByteArray) (i : Int) : UInt8 := if h : 0 ≤ i ∧ i < s.size then s[i.toNat]'(by omega) else 0
theorem sgAt_in (s : ByteArray) (k : Nat) (h : k < s.size) : sgAt s k = s[k] := by
  unfold sgAt
  rw [dif_pos (by omega)]
  rfl
theorem sgAt_out (s : ByteArray) (i : Int) (h : ¬ (0 ≤ i ∧ i < s.size)) : sgAt s i = 0 := by
  unfold sgAt
  rw [dif_neg h]

set_option maxHeartbeats 400000 in
theorem signIn_any (s : ByteArray) (i : Int) (w : World) :
    Calls Tryd.prog 87 #[.string s, .int .i64 i] w fun e w' => e = .returned (.int .u8 (sgAt s i).toNat) ∧ w = w' := by
  by_cases h0 : i < 0
  · have hv := sgAt_out s i (by omega)
    rw [hv]
    go_enter Tryd.func87, Tryd.ntmps87
    go_wp2
    go_ret
    exact ⟨rfl, rfl⟩
  · by_cases h1 : (s.size : Int) ≤ i
    · have hv := sgAt_out s i (by omega)
      rw [hv]
      go_enter Tryd.func87, Tryd.ntmps87
      go_wp2
      go_ret
      exact ⟨rfl, rfl⟩
    · obtain ⟨k, rfl⟩ := Int.eq_ofNat_of_zero_le (Int.not_lt.1 h0)
      have hk : k < s.size := by omega
      have hv := sgAt_in s k hk
      rw [hv]
      go_enter Tryd.func87, Tryd.ntmps87
      go_wp2
      go_ret
      exact ⟨rfl, rfl⟩

/-- Where the animal of a cell can go; the cell itself if nowhere. -/
def mvTo (s : ByteArray) (i : Int) : Int :=
  if sgAt s i = 84 then (if sgAt s (i + 1) = 46 then i + 1 else if sgAt s (i + 1) = 70 then (if sgAt s (i + 1 + 1) = 46 then i + 1 + 1 else i) else i)
  else if sgAt s i = 70 then (if sgAt s (i + -1) = 46 then i + -1 else if sgAt s (i + -1) = 84 then (if sgAt s (i + -1 + -1) = 46 then i + -1 + -1 else i) else i)
  else i
theorem sg_range (s : ByteArray) (i : Int) (h : sgAt s i ≠ 0) : 0 ≤ i ∧ i < s.size := by
  by_cases h1 : 0 ≤ i ∧ i < s.size
  · exact h1
  · exact absurd (sgAt_out s i h1) h

/-- What a byte is, for the walk: equal to a sign, or not. -/
theorem is_or (c d : UInt8) (n : Int) (hn : (d.toNat : Int) = n) : (c = d ∧ (c.toNat : Int) = n) ∨ (c ≠ d ∧ ((c.toNat : Int) == n) = false) := by
  by_cases h : c = d
  · exact .inl ⟨h, by rw [h, hn]⟩
  · exact .inr ⟨h, by rw [← hn]; exact bne_u8 h⟩

set_option maxHeartbeats 1000000 in
theorem moveFrom_any (s : ByteArray) (i : Int) (w : World) (hs : s.size ≤ 1000) :
    Calls Tryd.prog 79 #[.string s, .int .i64 i] w fun e w' => e = .returned (.agg #[.int .i64 i, .int .i64 (mvTo s i)]) ∧ Below w.heap.size w w' := by
  rcases is_or (sgAt s i) 84 84 rfl with ⟨hc, hv⟩ | ⟨hc0, hv⟩
  · obtain ⟨_, _⟩ := sg_range s i (by rw [hc]; decide)
    rcases is_or (sgAt s (i + 1)) 46 46 rfl with ⟨hc1, hv1⟩ | ⟨hc1, hv1⟩
    · have hR : Hid (mvTo s i = i + 1) := by show _ = _; unfold mvTo; rw [if_pos hc, if_pos hc1]
      clear hc hc1
      go_enter Tryd.func79, Tryd.ntmps79
      go_wp2_with (go_at_call 87; refine (signIn_any _ _ _).mono ?_; rintro e w' ⟨rfl, rfl⟩)
      exact bodyPost_ret (v := .agg #[.int .i64 i, .int .i64 (i + 1)]) (by simp [results, Tryd.results79, go_sem]) rfl ⟨by rw [hR.out], (Below.refl _ _).alloc (Nat.le_refl _) _⟩
    · rcases is_or (sgAt s (i + 1)) 70 70 rfl with ⟨hc2, hv2⟩ | ⟨hc2, hv2⟩
      · rcases is_or (sgAt s (i + 1 + 1)) 46 46 rfl with ⟨hc3, hv3⟩ | ⟨hc3, hv3⟩
        · have hR : Hid (mvTo s i = i + 1 + 1) := by show _ = _; unfold mvTo; rw [if_pos hc, if_neg hc1, if_pos hc2, if_pos hc3]
          clear hc hc1 hc2 hc3 hv1
          go_enter Tryd.func79, Tryd.ntmps79
          go_wp2_with (go_at_call 87; refine (signIn_any _ _ _).mono ?_; rintro e w' ⟨rfl, rfl⟩)
          exact bodyPost_ret (v := .agg #[.int .i64 i, .int .i64 (i + 1 + 1)]) (by simp [results, Tryd.results79, go_sem]) rfl ⟨by rw [hR.out], (Below.refl _ _).alloc (Nat.le_refl _) _⟩
        · have hR : Hid (mvTo s i = i) := by show _ = _; unfold mvTo; rw [if_pos hc, if_neg hc1, if_pos hc2, if_neg hc3]
          clear hc hc1 hc2 hc3 hv1
          go_enter Tryd.func79, Tryd.ntmps79
          go_wp2_with (go_at_call 87; refine (signIn_any _ _ _).mono ?_; rintro e w' ⟨rfl, rfl⟩)
          exact bodyPost_ret (v := .agg #[.int .i64 i, .int .i64 (i)]) (by simp [results, Tryd.results79, go_sem]) rfl ⟨by rw [hR.out], (Below.refl _ _).alloc (Nat.le_refl _) _⟩
      · have hR : Hid (mvTo s i = i) := by show _ = _; unfold mvTo; rw [if_pos hc, if_neg hc1, if_neg hc2]
        clear hc hc1 hc2
        go_enter Tryd.func79, Tryd.ntmps79
        go_wp2_with (go_at_call 87; refine (signIn_any _ _ _).mono ?_; rintro e w' ⟨rfl, rfl⟩)
        exact bodyPost_ret (v := .agg #[.int .i64 i, .int .i64 (i)]) (by simp [results, Tryd.results79, go_sem]) rfl ⟨by rw [hR.out], (Below.refl _ _).alloc (Nat.le_refl _) _⟩
  · rcases is_or (sgAt s i) 70 70 rfl with ⟨hc, hv2⟩ | ⟨hc, hv2⟩
    · clear hv
      obtain ⟨_, _⟩ := sg_range s i (by rw [hc]; decide)
      rcases is_or (sgAt s (i + -1)) 46 46 rfl with ⟨hc1, hv1⟩ | ⟨hc1, hv1⟩
      · have hR : Hid (mvTo s i = i + -1) := by show _ = _; unfold mvTo; rw [if_neg hc0, if_pos hc, if_pos hc1]
        clear hc hc0 hc1
        go_enter Tryd.func79, Tryd.ntmps79
        go_wp2_with (go_at_call 87; refine (signIn_any _ _ _).mono ?_; rintro e w' ⟨rfl, rfl⟩)
        exact bodyPost_ret (v := .agg #[.int .i64 i, .int .i64 (i + -1)]) (by simp [results, Tryd.results79, go_sem]) rfl ⟨by rw [hR.out], (Below.refl _ _).alloc (Nat.le_refl _) _⟩
      · rcases is_or (sgAt s (i + -1)) 84 84 rfl with ⟨hc2, hv2⟩ | ⟨hc2, hv2⟩
        · rcases is_or (sgAt s (i + -1 + -1)) 46 46 rfl with ⟨hc3, hv3⟩ | ⟨hc3, hv3⟩
          · have hR : Hid (mvTo s i = i + -1 + -1) := by show _ = _; unfold mvTo; rw [if_neg hc0, if_pos hc, if_neg hc1, if_pos hc2, if_pos hc3]
            clear hc hc0 hc1 hc2 hc3 hv1
            go_enter Tryd.func79, Tryd.ntmps79
            go_wp2_with (go_at_call 87; refine (signIn_any _ _ _).mono ?_; rintro e w' ⟨rfl, rfl⟩)
            exact bodyPost_ret (v := .agg #[.int .i64 i, .int .i64 (i + -1 + -1)]) (by simp [results, Tryd.results79, go_sem]) rfl ⟨by rw [hR.out], (Below.refl _ _).alloc (Nat.le_refl _) _⟩
          · have hR : Hid (mvTo s i = i) := by show _ = _; unfold mvTo; rw [if_neg hc0, if_pos hc, if_neg hc1, if_pos hc2, if_neg hc3]
            clear hc hc0 hc1 hc2 hc3 hv1
            go_enter Tryd.func79, Tryd.ntmps79
            go_wp2_with (go_at_call 87; refine (signIn_any _ _ _).mono ?_; rintro e w' ⟨rfl, rfl⟩)
            exact bodyPost_ret (v := .agg #[.int .i64 i, .int .i64 (i)]) (by simp [results, Tryd.results79, go_sem]) rfl ⟨by rw [hR.out], (Below.refl _ _).alloc (Nat.le_refl _) _⟩
        · have hR : Hid (mvTo s i = i) := by show _ = _; unfold mvTo; rw [if_neg hc0, if_pos hc, if_neg hc1, if_neg hc2]
          clear hc hc0 hc1 hc2
          go_enter Tryd.func79, Tryd.ntmps79
          go_wp2_with (go_at_call 87; refine (signIn_any _ _ _).mono ?_; rintro e w' ⟨rfl, rfl⟩)
          exact bodyPost_ret (v := .agg #[.int .i64 i, .int .i64 (i)]) (by simp [results, Tryd.results79, go_sem]) rfl ⟨by rw [hR.out], (Below.refl _ _).alloc (Nat.le_refl _) _⟩
    · have hR : Hid (mvTo s i = i) := by show _ = _; unfold mvTo; rw [if_neg hc0, if_neg hc]
      clear hc hc0
      go_enter Tryd.func79, Tryd.ntmps79
      go_wp2_with (go_at_call 87; refine (signIn_any _ _ _).mono ?_; rintro e w' ⟨rfl, rfl⟩)
      exact bodyPost_ret (v := .agg #[.int .i64 i, .int .i64 (i)]) (by simp [results, Tryd.results79, go_sem]) rfl ⟨by rw [hR.out], (Below.refl _ _).alloc (Nat.le_refl _) _⟩

theorem eql_move (a b c d : Int) (w : World) : (binOp .eql 55 (.agg #[.int .i64 a, .int .i64 b]) (.agg #[.int .i64 c, .int .i64 d])).run Tryd.prog w = .ok (.bool (a == c && b == d)) w := by
  have u3 := Tryd.underlying3
  have a3 := Tryd.isAgg3
  have z3 := Tryd.sizeOf3
  have hS : Tryd.prog.underlying 55 = some (.struct (Tryd.prog.fieldsOf 55)) := by kernel_rfl
  have hp : Tryd.prog.stoodInHeld 55 = false := by kernel_rfl
  rw [run_eql_struct, show (10000 : Nat) = 9999 + 1 from rfl, run_equalIn_agg w 9999 55 _ _ hS hp]
  simp only [Program.fieldsOf, Tryd.underlying55]
  go_simp
  by_cases h1 : a = c <;> by_cases h2 : b = d <;> simp [h1, h2]

/-- What a move can be made of: it ends where the animal of its cell can go. -/
def canM (s : ByteArray) (f t : Int) : Bool := decide (f ≠ t) && decide (t = mvTo s f)

set_option maxHeartbeats 1000000 in
theorem canBeMade_any (s : ByteArray) (f t : Int) (w : World) (hs : s.size ≤ 1000) :
    Calls Tryd.prog 70 #[.agg #[.int .i64 f, .int .i64 t, .string s]] w fun e w' => e = .returned (.bool (canM s f t)) ∧ Below w.heap.size w w' := by
  by_cases h : f = t
  · subst h
    have hR : Hid (canM s f f = false) := by show _ = _; simp [canM]
    go_enter Tryd.func70, Tryd.ntmps70
    go_wp2
    go_quiet (fail)
    go_wp2
    go_ret
    exact ⟨congrArg (fun b => Ending.returned (.bool b)) hR.out.symm, below_drewN ((Below.refl _ _).alloc (Nat.le_refl _) _) _⟩
  · have hR : Hid (canM s f t = decide (t = mvTo s f)) := by show _ = _; simp [canM, h]
    have hd : (f == t) = false := by simpa using h
    have hd2 : (f != t) = true := by simpa using h
    clear h
    go_enter Tryd.func70, Tryd.ntmps70
    go_wp2
    obtain ⟨W1, hW1⟩ : ∃ W1, W1 = w.alloc (Obj.cells #[Value.int IntKind.i64 f, Value.int IntKind.i64 t, Value.string s] 115) := ⟨_, rfl⟩
    rw [← hW1]
    have c0 : W1.cell? ⟨w.heap.size, 0, none⟩ = some (.int .i64 f) := by rw [hW1]; simp [World.cell?_alloc_new]
    have c1 : W1.cell? ⟨w.heap.size, 1, none⟩ = some (.int .i64 t) := by rw [hW1]; simp [World.cell?_alloc_new]
    have c2 : W1.cell? ⟨w.heap.size, 2, none⟩ = some (.string s) := by rw [hW1]; simp [World.cell?_alloc_new]
    have hz : w.heap.size < W1.heap.size := by rw [hW1]; simp
    have hB : Below w.heap.size w W1 := by rw [hW1]; exact (Below.refl _ _).alloc (Nat.le_refl _) _
    clear hW1
    have heq := fun wx => eql_move f t f (mvTo s f) wx
    go_region_held3 (fun w' => w'.cell? ⟨w.heap.size, 0, none⟩ = some (.int .i64 f) ∧ w'.cell? ⟨w.heap.size, 1, none⟩ = some (.int .i64 t) ∧ w'.cell? ⟨w.heap.size, 2, none⟩ = some (.string s)) (first | exact ⟨c0, c1, c2⟩ | exact ⟨(hb.cell hz).trans c0, (hb.cell hz).trans c1, (hb.cell hz).trans c2⟩) (first | (go_at_call 79; refine (moveFrom_any _ _ _ hs).mono ?_; rintro e w' ⟨rfl, hb⟩))
    go_wp2
    go_ret
    refine ⟨?_, ?_⟩
    · show Ending.returned (.bool (t == mvTo s f)) = _
      rw [hR.out]; congr 2
    · exact (Below.drew hB).trans (hb.mono (Nat.le_of_lt hz))
end Go.Proofs.YtfiifjcjmnhbnaaDoor
namespace Go.Proofs.YtfiifjcjmnhbnaaDoor
open Go.RowKit

theorem bcell {W w1 : World} (hb : Below W.heap.size W w1) : (∀ b o, b < W.heap.size → w1.cell? ⟨b, o, none⟩ = W.cell? ⟨b, o, none⟩) ∧ (∀ b o, b < W.heap.size → w1.frozen? ⟨b, o, none⟩ = W.frozen? ⟨b, o, none⟩) :=
  ⟨fun b o h => hb.cell (p := ⟨b, o, none⟩) h, fun b o h => hb.frozen (p := ⟨b, o, none⟩) h⟩

/-- What is known of a move that can be made. -/
theorem canM_in {s : ByteArray} {f t : Int} (h : canM s f t = true) : ∃ a b : Nat, f = a ∧ t = b ∧ a < s.size ∧ b < s.size ∧ a ≠ b := by
  unfold canM at h
  simp only [Bool.and_eq_true, decide_eq_true_eq] at h
  obtain ⟨hne, ht⟩ := h
  have hf : 0 ≤ f ∧ f < s.size := by
    by_cases h0 : sgAt s f = 0
    · exfalso
      apply hne
      rw [ht]
      unfold mvTo
      rw [h0]
      simp
    · exact sg_range s f h0
  have hti : 0 ≤ t ∧ t < s.size := by
    apply sg_range
    unfold mvTo at ht
    intro h0
    split at ht
    · split at ht
      · rename_i h1; rw [ht] at h0; rw [h0] at h1; cases h1
      · split at ht
        · split at ht
          · rename_i h1; rw [ht] at h0; rw [h0] at h1; cases h1
          · exact hne ht.symm
        · exact hne ht.symm
    · split at ht
      · split at ht
        · rename_i h1; rw [ht] at h0; rw [h0] at h1; cases h1
        · split at ht
          · split at ht
            · rename_i h1; rw [ht] at h0; rw [h0] at h1; cases h1
            · exact hne ht.symm
          · exact hne ht.symm
      · exact hne ht.symm
  obtain ⟨a, rfl⟩ := Int.eq_ofNat_of_zero_le hf.1
  obtain ⟨b, rfl⟩ := Int.eq_ofNat_of_zero_le hti.1
  exact ⟨a, b, rfl, rfl, by omega, by omega, by omega⟩

def toadM (s : ByteArray) (f t : Int) : Bool := canM s f t && decide (sgAt s f = 84)
def frogM (s : ByteArray) (f t : Int) : Bool := canM s f t && decide (sgAt s f = 70)

/-- The program turns a text into bytes of its own. -/
theorem to_bytes (s : ByteArray) (W : World) : ∃ (cap : Nat) (W2 : World), (convert 9 72 (.string s)).run Tryd.prog W = .ok (.slice (some ⟨W.heap.size, 0, none⟩) s.size cap) W2 ∧
    (∀ j (hj : j < s.size), W2.cell? ⟨W.heap.size, j, none⟩ = some (.int .u8 s[j].toNat) ∧ W2.frozen? ⟨W.heap.size, j, none⟩ = false) ∧ Below W.heap.size W W2 ∧ W.heap.size < W2.heap.size := by
  refine ⟨_, _, run_bytes_of_string (P := Tryd.prog) W 9 72 5 s Tryd.underlying9 Tryd.underlying72 Tryd.underlying5, fun j hj => ⟨?_, ?_⟩, (Below.drew (Below.refl _ _)).alloc (Nat.le_refl _) _, by simp⟩
  · have h := World.cell?_alloc_mark W.drew (bytesRow s (grownCap W s.size 0 5)) 5 ((bytesRow s (grownCap W s.size 0 5)).size, (bytesRow s (grownCap W s.size 0 5)).size + 1) j
    refine Eq.trans h ?_
    unfold bytesRow
    rw [Array.getElem?_append_left (by simpa using hj)]
    simp [hj]
    rfl
  · have hsz : j < (bytesRow s (grownCap W s.size 0 5)).size := by
      unfold bytesRow
      rw [Array.size_append, Array.size_map]
      exact Nat.lt_of_lt_of_le hj (Nat.le_add_right _ _)
    have e : (W.drew.alloc (.cells (bytesRow s (grownCap W s.size 0 5)) 5 ((bytesRow s (grownCap W s.size 0 5)).size, (bytesRow s (grownCap W s.size 0 5)).size + 1))).heap[W.heap.size]? = some (.cells (bytesRow s (grownCap W s.size 0 5)) 5 ((bytesRow s (grownCap W s.size 0 5)).size, (bytesRow s (grownCap W s.size 0 5)).size + 1)) := by
      show (W.heap.push _)[W.heap.size]? = _
      simp
    unfold World.frozen?
    rw [e]
    simp
    omega

/-- The line behind a move. -/
def putL (s : ByteArray) (a b : Nat) : List UInt8 := ((byt s).set b ((byt s).getD a 0)).set a 46

theorem putL_len (s : ByteArray) (a b : Nat) : (putL s a b).length = s.size := by simp [putL, byt_len]
theorem putL_at (s : ByteArray) (a b j : Nat) (ha : a < s.size) (hj : j < s.size) :
    (putL s a b)[j]? = some (if j = a then 46 else if j = b then s[a] else s[j]) := by
  have hl := byt_len s
  have g : ∀ k (hk : k < s.size), (byt s)[k]? = some s[k] := fun k hk => by
    rw [List.getElem?_eq_getElem (by omega)]; rfl
  unfold putL
  rw [List.getElem?_set, List.getElem?_set]
  by_cases e1 : a = j
  · subst e1; simp [hl, ha]
  · by_cases e2 : b = j
    · subst e2; simp [e1, Ne.symm e1, hl, hj, List.getD_eq_getElem?_getD, g a ha]
    · simp [e1, e2, Ne.symm e1, Ne.symm e2, g j hj]

theorem back_bytes (s : ByteArray) (W2 : World) (g a b cap : Nat) (ha : a < s.size) (hb : b < s.size) (hne : a ≠ b)
    (hc : ∀ j (hj : j < s.size), W2.cell? ⟨g, j, none⟩ = some (.int .u8 s[j].toNat)) :
    (convert 72 9 (.slice (some ⟨g, 0, none⟩) s.size cap)).run Tryd.prog (((W2.setCell ⟨g, b, none⟩ (.int .u8 s[a].toNat)).setCell ⟨g, a, none⟩ (.int .u8 46)).drew) = .ok (.string (str (putL s a b))) (((W2.setCell ⟨g, b, none⟩ (.int .u8 s[a].toNat)).setCell ⟨g, a, none⟩ (.int .u8 46)).drew) := by
  have h := run_convert_bytes_back (P := Tryd.prog) (((W2.setCell ⟨g, b, none⟩ (.int .u8 s[a].toNat)).setCell ⟨g, a, none⟩ (.int .u8 46)).drew) 72 9 5 ⟨g, 0, none⟩ cap (putL s a b) Tryd.underlying72 Tryd.underlying5 Tryd.underlying9 (by
    intro j hj
    have hj' : j < s.size := by rwa [putL_len] at hj
    have hp := putL_at s a b j ha hj'
    rw [List.getElem?_eq_getElem hj] at hp
    injection hp with hp
    rw [addr_add, hp]
    show ((W2.setCell ⟨g, b, none⟩ (.int .u8 s[a].toNat)).setCell ⟨g, a, none⟩ (.int .u8 46)).cell? ⟨g, j, none⟩ = _
    by_cases e1 : j = a
    · subst e1
      rw [if_pos rfl]
      exact World.cell?_setCell_same _ _ _ (by rw [World.cell?_setCell_other _ _ _ _ (by intro e; injection e with _ e; omega)]; exact hc j hj')
    · rw [if_neg e1, World.cell?_setCell_other _ _ _ _ (by intro e; injection e with _ e; omega)]
      by_cases e2 : j = b
      · subst e2
        rw [if_pos rfl]
        exact World.cell?_setCell_same _ _ _ (hc j hj')
      · rw [if_neg e2, World.cell?_setCell_other _ _ _ _ (by intro e; injection e with _ e; omega)]
        exact hc j hj')
  rw [putL_len] at h
  exact h

end Go.Proofs.YtfiifjcjmnhbnaaDoor
namespace Go.Proofs.YtfiifjcjmnhbnaaDoor
open Go.RowKit

/-- What the model asks of a move. -/
def canS (s : ByteArray) (f t : Int) : Prop := (0 ≤ f ∧ f < s.size) ∧ (0 ≤ t ∧ t < s.size) ∧ sgAt s t = 46 ∧
  ((sgAt s f = 84 ∧ (t = f + 1 ∨ (t = f + 1 + 1 ∧ sgAt s (f + 1) = 70))) ∨ (sgAt s f = 70 ∧ (t = f + -1 ∨ (t = f + -1 + -1 ∧ sgAt s (f + -1) = 84))))
theorem canM_iff (s : ByteArray) (f t : Int) : canM s f t = true ↔ canS s f t := by
  unfold canM canS
  simp only [Bool.and_eq_true, decide_eq_true_eq]
  constructor
  · rintro ⟨hne, ht⟩
    have hh : canM s f t = true := by simp [canM, hne, ← ht]
    obtain ⟨a, b, rfl, rfl, ha, hb, _⟩ := canM_in hh
    refine ⟨by omega, by omega, ?_⟩
    unfold mvTo at ht
    split at ht
    · rename_i h84
      split at ht
      · rename_i h1
        exact ⟨by rw [ht]; exact h1, .inl ⟨h84, .inl ht⟩⟩
      · split at ht
        · split at ht
          · rename_i h2 h3
            exact ⟨by rw [ht]; exact h3, .inl ⟨h84, .inr ⟨ht, h2⟩⟩⟩
          · exact absurd ht.symm hne
        · exact absurd ht.symm hne
    · split at ht
      · rename_i h70
        split at ht
        · rename_i h1
          exact ⟨by rw [ht]; exact h1, .inr ⟨h70, .inl ht⟩⟩
        · split at ht
          · split at ht
            · rename_i h2 h3
              exact ⟨by rw [ht]; exact h3, .inr ⟨h70, .inr ⟨ht, h2⟩⟩⟩
            · exact absurd ht.symm hne
          · exact absurd ht.symm hne
      · exact absurd ht.symm hne
  · rintro ⟨hf, ht, h46, ⟨h84, h⟩ | ⟨h70, h⟩⟩
    · rcases h with rfl | ⟨rfl, h2⟩
      · exact ⟨by omega, by simp [mvTo, h84, h46]⟩
      · exact ⟨by omega, by simp [mvTo, h84, h46, h2]⟩
    · rcases h with rfl | ⟨rfl, h2⟩
      · exact ⟨by omega, by simp [mvTo, h70, h46]⟩
      · exact ⟨by omega, by simp [mvTo, h70, h46, h2]⟩

theorem canM_not {s : ByteArray} {f t : Int} (h : ¬ canS s f t) : canM s f t = false := by
  rw [Bool.eq_false_iff]
  exact fun e => h ((canM_iff s f t).1 e)

set_option maxHeartbeats 1000000 in
theorem liCan_any (s : ByteArray) (f t : Int) (w : World) (hs : s.size ≤ 1000) :
    Calls Tryd.prog 36 #[.string s, .agg #[.int .i64 f, .int .i64 t]] w fun e w' => e = .returned (.bool (canM s f t)) ∧ Below w.heap.size w w' := by
  have hend : Below w.heap.size w (w.alloc (Obj.cells #[Value.int IntKind.i64 f, Value.int IntKind.i64 t] 55)) := (Below.refl _ _).alloc (Nat.le_refl _) _
  cases h1 : inR f 0 (s.size - 1)
  · have hR : Hid (canM s f t = false) := canM_not fun h => by
      obtain ⟨⟨_, _⟩, _⟩ := h
      simp [inR] at h1
      omega
    have H1 := Lib.hid h1
    clear h1
    go_enter Tryd.func36, Tryd.ntmps36
    go_wp2_with (go_at_call 20; refine (l1In_any _ _ _ _).mono ?_; rintro e w' ⟨rfl, rfl⟩; rw [H1.out])
    go_ret
    exact ⟨congrArg (fun b => Ending.returned (.bool b)) hR.out.symm, hend⟩
  · cases h2 : inR t 0 (s.size - 1)
    · have hR : Hid (canM s f t = false) := canM_not fun h => by
        obtain ⟨_, ⟨_, _⟩, _⟩ := h
        simp [inR] at h2
        omega
      have H1 := Lib.hid h1
      have H2 := Lib.hid h2
      clear h1 h2
      go_enter Tryd.func36, Tryd.ntmps36
      go_wp2_with fail
      refine (l1In_any _ _ _ _).mono ?_; rintro e w' ⟨rfl, rfl⟩; rw [H1.out]
      go_wp2_with fail
      refine (l1In_any _ _ _ _).mono ?_; rintro e w' ⟨rfl, rfl⟩; rw [H2.out]
      go_wp2
      go_ret
      exact ⟨congrArg (fun b => Ending.returned (.bool b)) hR.out.symm, hend⟩
    · have hf : 0 ≤ f ∧ f < s.size := by simp [inR] at h1; omega
      have ht : 0 ≤ t ∧ t < s.size := by simp [inR] at h2; omega
      have H1 := Lib.hid h1
      have H2 := Lib.hid h2
      clear h1 h2
      obtain ⟨a, rfl⟩ := Int.eq_ofNat_of_zero_le hf.1
      obtain ⟨b, rfl⟩ := Int.eq_ofNat_of_zero_le ht.1
      have ha : a < s.size := by omega
      have hb : b < s.size := by omega
      have ga := Lib.hid (sgAt_in s a ha)
      have gb := Lib.hid (sgAt_in s b hb)
      clear hf ht
      rcases is_or s[b] 46 46 rfl with ⟨hc, hv⟩ | ⟨hc, hv⟩
      · rcases is_or s[a] 84 84 rfl with ⟨hcs, hv2⟩ | ⟨hc2, hv2⟩
        · by_cases e1 : (b : Int) = (a : Int) + 1
          · have hR : Hid (canM s a b = true) := (canM_iff s a b).2 ⟨⟨by omega, by omega⟩, ⟨by omega, by omega⟩, by rw [gb.out]; exact hc, .inl ⟨by rw [ga.out]; exact hcs, .inl e1⟩⟩
            have E1 : ((b : Int) == (a : Int) + 1) = true := by simpa using e1
            clear hc hcs e1
            go_enter Tryd.func36, Tryd.ntmps36
            go_wp2_with fail
            refine (l1In_any _ _ _ _).mono ?_; rintro e w' ⟨rfl, rfl⟩; rw [H1.out]
            go_wp2_with fail
            refine (l1In_any _ _ _ _).mono ?_; rintro e w' ⟨rfl, rfl⟩; rw [H2.out]
            go_wp2
            go_ret
            exact ⟨congrArg (fun b => Ending.returned (.bool b)) hR.out.symm, (Below.refl _ _).alloc (Nat.le_refl _) _⟩
          · by_cases e2 : (b : Int) = (a : Int) + 2
            · have hr : (a + 1) < s.size := by omega
              have gi : sgAt s ((a : Int) + 1) = s[a + 1] := by
                have := sgAt_in s (a + 1) hr
                rwa [show ((a + 1 : Nat) : Int) = (a : Int) + 1 from by omega] at this
              rcases is_or s[a + 1] 70 70 rfl with ⟨hc4, hv4⟩ | ⟨hc4, hv4⟩
              · have hR : Hid (canM s a b = true) := (canM_iff s a b).2 ⟨⟨by omega, by omega⟩, ⟨by omega, by omega⟩, by rw [gb.out]; exact hc, .inl ⟨by rw [ga.out]; exact hcs, .inr ⟨by omega, by rw [gi]; exact hc4⟩⟩⟩
                have E1 : ((b : Int) == (a : Int) + 1) = false := by simpa using e1
                have E2 : ((b : Int) == (a : Int) + 2) = true := by simpa using e2
                have b1 : 0 ≤ (a : Int) + 1 := by omega
                have b2 : (a : Int) + 1 < (s.size : Int) := by omega
                clear hc hcs e1 e2 hc4 gi
                go_enter Tryd.func36, Tryd.ntmps36
                go_wp2_with fail
                refine (l1In_any _ _ _ _).mono ?_; rintro e w' ⟨rfl, rfl⟩; rw [H1.out]
                go_wp2_with fail
                refine (l1In_any _ _ _ _).mono ?_; rintro e w' ⟨rfl, rfl⟩; rw [H2.out]
                go_wp2
                go_ret
                exact ⟨congrArg (fun b => Ending.returned (.bool b)) hR.out.symm, (Below.refl _ _).alloc (Nat.le_refl _) _⟩
              · have hR : Hid (canM s a b = false) := canM_not fun h => by
                  obtain ⟨_, _, _, ⟨h84, h | ⟨_, h⟩⟩ | ⟨h70, h | ⟨_, h⟩⟩⟩ := h
                  · exact e1 h
                  · rw [gi] at h; exact hc4 h
                  · rw [ga.out, hcs] at h70; cases h70
                  · rw [ga.out, hcs] at h70; cases h70
                have E1 : ((b : Int) == (a : Int) + 1) = false := by simpa using e1
                have E2 : ((b : Int) == (a : Int) + 2) = true := by simpa using e2
                have b1 : 0 ≤ (a : Int) + 1 := by omega
                have b2 : (a : Int) + 1 < (s.size : Int) := by omega
                clear hc hcs e1 e2 hc4 gi
                go_enter Tryd.func36, Tryd.ntmps36
                go_wp2_with fail
                refine (l1In_any _ _ _ _).mono ?_; rintro e w' ⟨rfl, rfl⟩; rw [H1.out]
                go_wp2_with fail
                refine (l1In_any _ _ _ _).mono ?_; rintro e w' ⟨rfl, rfl⟩; rw [H2.out]
                go_wp2
                go_ret
                exact ⟨congrArg (fun b => Ending.returned (.bool b)) hR.out.symm, (Below.refl _ _).alloc (Nat.le_refl _) _⟩
            · have hR : Hid (canM s a b = false) := canM_not fun h => by
                obtain ⟨_, _, _, ⟨h84, h | ⟨h, _⟩⟩ | ⟨h70, h | ⟨h, _⟩⟩⟩ := h
                · exact e1 h
                · omega
                · rw [ga.out, hcs] at h70; cases h70
                · rw [ga.out, hcs] at h70; cases h70
              have E1 : ((b : Int) == (a : Int) + 1) = false := by simpa using e1
              have E2 : ((b : Int) == (a : Int) + 2) = false := by simpa using e2
              clear hc hcs e1 e2
              go_enter Tryd.func36, Tryd.ntmps36
              go_wp2_with fail
              refine (l1In_any _ _ _ _).mono ?_; rintro e w' ⟨rfl, rfl⟩; rw [H1.out]
              go_wp2_with fail
              refine (l1In_any _ _ _ _).mono ?_; rintro e w' ⟨rfl, rfl⟩; rw [H2.out]
              go_wp2
              go_ret
              exact ⟨congrArg (fun b => Ending.returned (.bool b)) hR.out.symm, (Below.refl _ _).alloc (Nat.le_refl _) _⟩
        · rcases is_or s[a] 70 70 rfl with ⟨hcs, hv3⟩ | ⟨hc3, hv3⟩
          · clear hc2 hv2
            by_cases e1 : (b : Int) = (a : Int) + -1
            · have hR : Hid (canM s a b = true) := (canM_iff s a b).2 ⟨⟨by omega, by omega⟩, ⟨by omega, by omega⟩, by rw [gb.out]; exact hc, .inr ⟨by rw [ga.out]; exact hcs, .inl e1⟩⟩
              have E1 : ((b : Int) == (a : Int) + -1) = true := by simpa using e1
              clear hc hcs e1
              go_enter Tryd.func36, Tryd.ntmps36
              go_wp2_with fail
              refine (l1In_any _ _ _ _).mono ?_; rintro e w' ⟨rfl, rfl⟩; rw [H1.out]
              go_wp2_with fail
              refine (l1In_any _ _ _ _).mono ?_; rintro e w' ⟨rfl, rfl⟩; rw [H2.out]
              go_wp2
              go_ret
              exact ⟨congrArg (fun b => Ending.returned (.bool b)) hR.out.symm, (Below.refl _ _).alloc (Nat.le_refl _) _⟩
            · by_cases e2 : (b : Int) = (a : Int) + -2
              · have hr : ((a : Int) + -1).toNat < s.size := by omega
                have gi : sgAt s ((a : Int) + -1) = s[((a : Int) + -1).toNat] := by
                  have := sgAt_in s (((a : Int) + -1).toNat) hr
                  rwa [show ((((a : Int) + -1).toNat : Nat) : Int) = (a : Int) + -1 from by omega] at this
                rcases is_or s[((a : Int) + -1).toNat] 84 84 rfl with ⟨hc4, hv4⟩ | ⟨hc4, hv4⟩
                · have hR : Hid (canM s a b = true) := (canM_iff s a b).2 ⟨⟨by omega, by omega⟩, ⟨by omega, by omega⟩, by rw [gb.out]; exact hc, .inr ⟨by rw [ga.out]; exact hcs, .inr ⟨by omega, by rw [gi]; exact hc4⟩⟩⟩
                  have E1 : ((b : Int) == (a : Int) + -1) = false := by simpa using e1
                  have E2 : ((b : Int) == (a : Int) + -2) = true := by simpa using e2
                  have b1 : 0 ≤ (a : Int) + -1 := by omega
                  have b2 : (a : Int) + -1 < (s.size : Int) := by omega
                  clear hc hcs e1 e2 hc4 gi
                  go_enter Tryd.func36, Tryd.ntmps36
                  go_wp2_with fail
                  refine (l1In_any _ _ _ _).mono ?_; rintro e w' ⟨rfl, rfl⟩; rw [H1.out]
                  go_wp2_with fail
                  refine (l1In_any _ _ _ _).mono ?_; rintro e w' ⟨rfl, rfl⟩; rw [H2.out]
                  go_wp2
                  go_ret
                  exact ⟨congrArg (fun b => Ending.returned (.bool b)) hR.out.symm, (Below.refl _ _).alloc (Nat.le_refl _) _⟩
                · have hR : Hid (canM s a b = false) := canM_not fun h => by
                    obtain ⟨_, _, _, ⟨h84, h | ⟨_, h⟩⟩ | ⟨h70, h | ⟨_, h⟩⟩⟩ := h
                    · rw [ga.out, hcs] at h84; cases h84
                    · rw [ga.out, hcs] at h84; cases h84
                    · exact e1 h
                    · rw [gi] at h; exact hc4 h
                  have E1 : ((b : Int) == (a : Int) + -1) = false := by simpa using e1
                  have E2 : ((b : Int) == (a : Int) + -2) = true := by simpa using e2
                  have b1 : 0 ≤ (a : Int) + -1 := by omega
                  have b2 : (a : Int) + -1 < (s.size : Int) := by omega
                  clear hc hcs e1 e2 hc4 gi
                  go_enter Tryd.func36, Tryd.ntmps36
                  go_wp2_with fail
                  refine (l1In_any _ _ _ _).mono ?_; rintro e w' ⟨rfl, rfl⟩; rw [H1.out]
                  go_wp2_with fail
                  refine (l1In_any _ _ _ _).mono ?_; rintro e w' ⟨rfl, rfl⟩; rw [H2.out]
                  go_wp2
                  go_ret
                  exact ⟨congrArg (fun b => Ending.returned (.bool b)) hR.out.symm, (Below.refl _ _).alloc (Nat.le_refl _) _⟩
              · have hR : Hid (canM s a b = false) := canM_not fun h => by
                  obtain ⟨_, _, _, ⟨h84, h | ⟨h, _⟩⟩ | ⟨h70, h | ⟨h, _⟩⟩⟩ := h
                  · rw [ga.out, hcs] at h84; cases h84
                  · rw [ga.out, hcs] at h84; cases h84
                  · exact e1 h
                  · omega
                have E1 : ((b : Int) == (a : Int) + -1) = false := by simpa using e1
                have E2 : ((b : Int) == (a : Int) + -2) = false := by simpa using e2
                clear hc hcs e1 e2
                go_enter Tryd.func36, Tryd.ntmps36
                go_wp2_with fail
                refine (l1In_any _ _ _ _).mono ?_; rintro e w' ⟨rfl, rfl⟩; rw [H1.out]
                go_wp2_with fail
                refine (l1In_any _ _ _ _).mono ?_; rintro e w' ⟨rfl, rfl⟩; rw [H2.out]
                go_wp2
                go_ret
                exact ⟨congrArg (fun b => Ending.returned (.bool b)) hR.out.symm, (Below.refl _ _).alloc (Nat.le_refl _) _⟩
          · have hR : Hid (canM s a b = false) := canM_not fun h => by
              obtain ⟨_, _, _, ⟨h84, _⟩ | ⟨h70, _⟩⟩ := h
              · rw [ga.out] at h84; exact hc2 h84
              · rw [ga.out] at h70; exact hc3 h70
            clear hc hc2 hc3
            go_enter Tryd.func36, Tryd.ntmps36
            go_wp2_with fail
            refine (l1In_any _ _ _ _).mono ?_; rintro e w' ⟨rfl, rfl⟩; rw [H1.out]
            go_wp2_with fail
            refine (l1In_any _ _ _ _).mono ?_; rintro e w' ⟨rfl, rfl⟩; rw [H2.out]
            go_wp2
            go_ret
            exact ⟨congrArg (fun b => Ending.returned (.bool b)) hR.out.symm, (Below.refl _ _).alloc (Nat.le_refl _) _⟩
      · have hR : Hid (canM s a b = false) := canM_not fun h => by
          obtain ⟨_, _, h3, _⟩ := h
          rw [gb.out] at h3
          exact hc h3
        have hvn : ((s[b].toNat : Int) != 46) = true := by simpa [bne] using hv
        clear hc
        go_enter Tryd.func36, Tryd.ntmps36
        go_wp2_with fail
        refine (l1In_any _ _ _ _).mono ?_; rintro e w' ⟨rfl, rfl⟩; rw [H1.out]
        go_wp2_with fail
        refine (l1In_any _ _ _ _).mono ?_; rintro e w' ⟨rfl, rfl⟩; rw [H2.out]
        go_wp2
        go_ret
        exact ⟨congrArg (fun b => Ending.returned (.bool b)) hR.out.symm, hend⟩
end Go.Proofs.YtfiifjcjmnhbnaaDoor
namespace Go.Proofs.YtfiifjcjmnhbnaaDoor
open Go.RowKit

theorem ext_str (s : ByteArray) (i j : Nat) : s.extract i j = str (((byt s).take j).drop i) := by
  apply ByteArray.ext
  simp only [str, byt, ByteArray.data_extract]
  apply Array.ext'
  simp [List.extract_eq_take_drop, List.drop_take]

theorem put_list (l : List UInt8) (k : Nat) (c : UInt8) (h : k < l.length) : l.take k ++ [c] ++ l.drop (k + 1) = l.set k c := by
  rw [List.set_eq_take_append_cons_drop, if_pos h]
  simp

set_option maxHeartbeats 1000000 in
theorem liPut_any (s : ByteArray) (k : Nat) (g : ByteArray) (c : UInt8) (w : World) (hs : s.size ≤ 1000) (hk : k < s.size) (hg : g = str [c]) :
    Calls Tryd.prog 37 #[.string s, .int .i64 k, .string g] w fun e w' => e = .returned (.string (str ((byt s).set k c))) ∧ ∃ n, w' = w.drewN n := by
  have Z1 : g.size ≤ 1 := by rw [hg, str_size]; simp
  have z2 : (s.extract 0 k).size ≤ 1000 := by rw [ByteArray.size_extract]; omega
  have z3 : (s.extract (k + 1) s.size).size ≤ 1000 := by rw [ByteArray.size_extract]; omega
  have hR : Hid (s.extract 0 k ++ g ++ s.extract (k + 1) s.size = str ((byt s).set k c)) := by
    show _ = _
    rw [hg, ext_str, ext_str, str_app, str_app, ← put_list (byt s) k c (by rw [byt_len]; exact hk)]
    congr 1
    rw [take_all]
    simp
  clear hg
  go_enter Tryd.func37, Tryd.ntmps37
  go_wp2
  go_quiet (fail)
  go_wp2
  go_ret
  exact ⟨congrArg (fun b => Ending.returned (.string b)) hR.out, _, rfl⟩

theorem sign_at (s : ByteArray) (a : Nat) (ha : a < s.size) : s.extract a (a + 1) = str [s[a]] := by
  rw [ext_str]
  congr 1
  rw [take_snoc s a ha, List.drop_append, List.drop_of_length_le (by rw [List.length_take]; omega)]
  simp [byt_len, Nat.min_eq_left (Nat.le_of_lt ha)]

theorem putL_comm (s : ByteArray) (a b : Nat) (ha : a < s.size) (hne : a ≠ b) : ((byt s).set a 46).set b s[a] = putL s a b := by
  unfold putL
  have e : (byt s).getD a 0 = s[a] := by
    rw [List.getD_eq_getElem?_getD, List.getElem?_eq_getElem (by rw [byt_len]; exact ha)]; rfl
  rw [e, List.set_comm _ _ (by omega)]

set_option maxRecDepth 20000 in
set_option maxHeartbeats 1000000 in
theorem liMake_any (s : ByteArray) (a b : Nat) (w : World) (hs : s.size ≤ 1000) (ha : a < s.size) (hb : b < s.size) (hne : a ≠ b) :
    Calls Tryd.prog 24 #[.string s, .agg #[.int .i64 a, .int .i64 b]] w fun e w' => e = .returned (.string (str (putL s a b))) ∧ Below w.heap.size w w' := by
  have c1 := fun w => liPut_any s a ⟨#[46]⟩ 46 w hs ha rfl
  have c2 := fun w => liPut_any (str ((byt s).set a 46)) b (s.extract a (a + 1)) s[a] w (by rw [str_size, List.length_set, byt_len]; exact hs) (by rw [str_size, List.length_set, byt_len]; exact hb) (sign_at s a ha)
  have hR : Hid ((byt (str ((byt s).set a 46))).set b s[a] = putL s a b) := by
    show _ = _
    rw [byt_str]; exact putL_comm s a b ha hne
  rw [hR.out] at c2
  go_enter Tryd.func24, Tryd.ntmps24
  go_wp2
  go_quiet ((go_at_call 37; first | (with_reducible exact Calls.quiet_of (c1 _)) | (with_reducible exact Calls.quiet_of (c2 _))))
  go_wp2
  go_ret
  exact ⟨rfl, below_drewN ((Below.refl _ _).alloc (Nat.le_refl _) _) _⟩
end Go.Proofs.YtfiifjcjmnhbnaaDoor
namespace Go.Proofs.YtfiifjcjmnhbnaaDoor
open Go.RowKit

def boolOr (c b : Bool) : Value := if c then .tuple #[.bool b, .bool true] else .tuple #[.bool false, .bool false]
theorem boolOr_no (c b : Bool) (h : c = false) : boolOr c b = .tuple #[.bool false, .bool false] := by rw [h]; rfl
theorem boolOr_yes (c b : Bool) (h : c = true) : boolOr c b = .tuple #[.bool b, .bool true] := by rw [h]; rfl
/-- The block of a move that came by value. -/
abbrev mvB (f t : Int) : Obj := Obj.cells #[Value.int IntKind.i64 f, Value.int IntKind.i64 t] 55
abbrev plB (f t : Int) (s : ByteArray) : Obj := Obj.cells #[Value.int IntKind.i64 f, Value.int IntKind.i64 t, Value.string s] 115
theorem good1000 {s : ByteArray} (h : goodL s = true) : s.size ≤ 1000 := by have := ((goodL_iff s).1 h).2.1; omega

/-- The line behind a move. -/
def behind (s : ByteArray) (f t : Int) : List UInt8 := putL s f.toNat t.toNat

/-- A jump: two cells. -/
def jumpM (f t : Int) : Bool := decide (t - f = 2 ∨ t - f = -2)
theorem canM_far {s : ByteArray} {f t : Int} (h : canM s f t = true) : t - f = 1 ∨ t - f = -1 ∨ t - f = 2 ∨ t - f = -2 := by
  obtain ⟨_, _, _, ⟨_, h | ⟨h, _⟩⟩ | ⟨_, h | ⟨h, _⟩⟩⟩ := (canM_iff s f t).1 h <;> omega
theorem jump_mod {f t : Int} (h : t - f = 1 ∨ t - f = -1 ∨ t - f = 2 ∨ t - f = -2) : ((t - f).tmod 2 == 0) = jumpM f t := by
  rcases h with h | h | h | h <;> simp [jumpM, h]

theorem jump_abs {f t : Int} : (((t - f).natAbs : Int) == 2) = jumpM f t := by
  rw [Bool.eq_iff_iff]
  simp [jumpM]
  omega

end Go.Proofs.YtfiifjcjmnhbnaaDoor
