/- Contracts: the laws' own functions on lists of texts. -/
import Derived.Test.YtdcbjbmnkajjcaaDoorSl
import Derived.Test.YtdcbjbmnkajjcaaDoorMoves
namespace Go.Proofs.YtdcbjbmnkajjcaaDoor
open Go.RowKit

/-- The digits of a number. -/
def digF : Nat → Nat → List UInt8
  | 0, _ => []
  | f + 1, k => if k = 0 then [] else digF f (k / 10) ++ [UInt8.ofNat (48 + k % 10)]
def mtx (k : Nat) : List UInt8 := 109 :: digF 7 k
theorem digF_more : ∀ (f k : Nat), k < 10 ^ f → digF (f + 1) k = digF f k
  | 0, k, h => by
    obtain rfl : k = 0 := by simpa using h
    rfl
  | f + 1, k, h => by
    show (if k = 0 then [] else digF (f + 1) (k / 10) ++ [UInt8.ofNat (48 + k % 10)]) = (if k = 0 then [] else digF f (k / 10) ++ [UInt8.ofNat (48 + k % 10)])
    rw [digF_more f (k / 10) (by rw [Nat.pow_succ] at h; omega)]
theorem digF_step (k : Nat) (h0 : k ≠ 0) (h : k < 1000000) : digF 7 k = digF 7 (k / 10) ++ [UInt8.ofNat (48 + k % 10)] := by
  show (if k = 0 then [] else digF 6 (k / 10) ++ [UInt8.ofNat (48 + k % 10)]) = _
  rw [if_neg h0, digF_more 6 (k / 10) (by omega)]
theorem digF_len : ∀ (f k : Nat), (digF f k).length ≤ f
  | 0, _ => by simp [digF]
  | f + 1, k => by
    have := digF_len f (k / 10)
    unfold digF
    split
    · simp
    · simp; omega
theorem digF_zero (f : Nat) : digF f 0 = [] := by cases f <;> rfl

set_option maxRecDepth 100000 in
set_option maxHeartbeats 2000000 in
theorem markText_any (k : Nat) (hk : 1 ≤ k) (hl : k ≤ 200000) (w : World) :
    Calls Tryd.prog 32 #[.int .i64 k] w fun e w' => e = .returned (.string (str (mtx k))) ∧ Below w.heap.size w w' := by
  have HM : Hid (digF 7 k ++ [] = digF 7 k) := Lib.hid (by simp)
  go_enter Tryd.func32, Tryd.ntmps32
  go_wp2
  go_loopw [0, 3] (fun a b wr => ∃ (j : Nat) (o : List UInt8), j ≤ k ∧ a = .int .i64 j ∧ b = .string (str o) ∧ Hid (digF 7 j ++ o = digF 7 k) ∧ Below w.heap.size w wr) (fun a _ _ => (intOf a).toNat)
  case atStart => exact ⟨k, [], Nat.le_refl _, rfl, rfl, HM, Below.refl _ _⟩
  case round =>
    obtain ⟨j, o, hj, rfl, rfl, HO, hB⟩ := hrel
    have hso : (str o).size ≤ 7 := by
      have h1 := congrArg List.length HO.out
      have h2 := digF_len 7 k
      rw [List.length_append] at h1
      rw [str_size]; omega
    by_cases h0 : j = 0
    · subst h0
      have HO : Hid (o = digF 7 k) := Lib.hid (by have := HO.out; rwa [digF_zero, List.nil_append] at this)
      have happ : (⟨#[109]⟩ : ByteArray) ++ str o = str (mtx k) := by
        rw [HO.out]; show str [109] ++ str (digF 7 k) = _; rw [str_app]; rfl
      rw [show ((0 : Nat) : Int) = 0 from rfl]
      have hs1 : (⟨#[109]⟩ : ByteArray).size = 1 := rfl
      go_wp2
      go_ret
      exact ⟨rfl, hB⟩
    · have HS := Lib.hid (digF_step j h0 (by omega))
      have hm1 : ((j : Int).tmod 10) = ((j % 10 : Nat) : Int) := by rw [Int.tmod_eq_emod_of_nonneg (by omega)]; omega
      have hd1 : ((j : Int).tdiv 10) = ((j / 10 : Nat) : Int) := by rw [Int.tdiv_eq_ediv_of_nonneg (by omega)]; omega
      obtain ⟨dg, hdg⟩ : ∃ dg, dg = UInt8.ofNat (48 + j % 10) := ⟨_, rfl⟩
      have hdn : ((dg.toNat : Nat) : Int) = 48 + (j : Int) % 10 := by
        rw [hdg, UInt8.toNat_ofNat']; omega
      have hconv := run_convert_bytes_back (P := Tryd.prog) (wr.alloc (Obj.cells #[.int .u8 (48 + (j : Int) % 10)] 5)) 66 9 5 ⟨wr.heap.size, 0, none⟩ 1 [dg] Tryd.underlying66 Tryd.underlying5 Tryd.underlying9 (by
        intro q hq
        obtain rfl : q = 0 := by simpa using hq
        rw [addr_add, World.cell?_alloc_new]
        simp [hdn])
      have hap : (⟨[dg].toArray⟩ : ByteArray) ++ str o = str (dg :: o) := by show str [dg] ++ str o = _; rw [str_app]; rfl
      simp only [List.length_cons, List.length_nil, Nat.zero_add] at hconv
      rw [← hdg] at HS
      have hs1 : (⟨#[dg]⟩ : ByteArray).size = 1 := rfl
      clear hdg hdn
      go_wp2
      exact ⟨⟨j / 10, dg :: o, by omega, congrArg (fun n => Value.int .i64 n) (by omega), rfl, Lib.hid (by rw [← HO.out, HS.out]; simp), hB.alloc hB.size _⟩, by simp [intOf]; omega⟩

/-- The marks: k, k + 1, .. as texts. -/
def mks (k n : Nat) : List (List UInt8) := (List.range n).map fun j => mtx (k + j)
theorem mks_len (k n : Nat) : (mks k n).length = n := by simp [mks]
theorem mks_next (k n : Nat) : mks k (n + 1) = mks k n ++ [mtx (k + n)] := by simp [mks, List.range_succ]
theorem mks_at (k n j : Nat) (h : j < (mks k n).length) : (mks k n)[j] = mtx (k + j) := by simp [mks]
theorem txs_set (l : List (List UInt8)) (j : Nat) (x : List UInt8) : (txs l).set j (.string (str x)) = txs (l.set j x) := by simp [txs, List.map_set]
theorem txs_get (l : List (List UInt8)) (k : Nat) (h : k < l.length) : (txs l)[k]? = some (.string (str l[k])) := by simp [txs, h]
theorem set_at (A B : List (List UInt8)) (q p : List UInt8) (j : Nat) (h : A.length = j) : (A ++ q :: B).set j p = (A ++ [p]) ++ B := by
  subst h
  simp

theorem row_form {w : World} {base n : Nat} {e : TypeId} {v : Value} {vs : List Value} (ho : w.ownsRow base e 1 v n vs) (hn : 0 < n) : ∃ g cap, v = .slice (some ⟨g, 0, none⟩) n cap ∧ base ≤ g ∧ g < w.heap.size := by
  obtain ⟨hlen, h2 | ⟨g, cap, cur, rfl, hb, hg, hle, hm, hs, ht⟩⟩ := ho
  · omega
  · exact ⟨g, cap, rfl, hb, (Array.getElem?_eq_some_iff.1 hg).1⟩
set_option maxRecDepth 100000 in
set_option maxHeartbeats 2000000 in
theorem eqStringS_same (l : List (List UInt8)) (A1 A2 : Option Addr) (c1 c2 : Nat) (w : World) (h1 : StAt w A1 l) (h2 : StAt w A2 l) (hl : l.length ≤ 2000000) :
    Calls Tryd.prog 10 #[.slice A1 l.length c1, .slice A2 l.length c2] w fun e w' => e = .returned (.bool true) ∧ Below w.heap.size w w' := by
  have H1 := Lib.hid h1
  have H2 := Lib.hid h2
  clear h1 h2
  go_enter Tryd.func10, Tryd.ntmps10
  go_wp2
  go_loopw [5] (fun i wr => ∃ k : Nat, k ≤ l.length ∧ i = .int .i64 k ∧ Below w.heap.size w wr) (fun i _ => l.length - (intOf i).toNat)
  case atStart => exact ⟨0, Nat.zero_le _, rfl, Below.refl _ _⟩
  case round =>
    obtain ⟨k, hk, rfl, hB⟩ := hrel
    by_cases hlt : k < l.length
    · obtain ⟨g, rfl, z1, p1⟩ := (H1.out.below hB) k hlt
      obtain ⟨g', rfl, z2, p2⟩ := (H2.out.below hB) k hlt
      generalize l[k] = a at p1 p2
      have i1 : (0 : Int) ≤ (k : Int) := by omega
      have i2 : (k : Int) < (l.length : Int) := by omega
      have hHB := Lib.hid hB
      clear hB
      go_wp2
      go_region
      go_wp2
      first
        | exact ⟨⟨k + 1, by omega, by go_num, Below.drew hHB.out⟩, by simp [intOf]; omega⟩
        | (go_roundw
           case rel => exact ⟨k + 1, by omega, by go_num, Below.drew hHB.out⟩
           case measure => simp [intOf]; omega)
    · go_wp2
      go_ret
      exact ⟨rfl, hB⟩

set_option maxRecDepth 100000 in
set_option maxHeartbeats 2000000 in
theorem markStringS_any (n k0 base : Nat) (l : List (List UInt8)) (v : Value) (w : World) (hln : l.length = n) (hown : w.ownsRow base 9 1 v n (txs l)) (hn : n ≤ 100000) (hk0 : 1 ≤ k0) (hk1 : k0 ≤ 1000) :
    Calls Tryd.prog 11 #[v, .int .i64 k0] w fun e w' => e = .returned (.int .i64 ((k0 : Int) + n)) ∧ w'.ownsRow base 9 1 v n (txs (mks k0 n)) ∧ Below base w w' ∧ FarB v.ownBlock w w' := by
  obtain ⟨A, cap, rfl, hcap, _, _, hno, hsome⟩ := st_own (l := l) (by rw [hln]; exact hown)
  rw [hln] at hown hcap ⊢
  have HLN := Lib.hid hln
  have hbw : base ≤ w.heap.size ∨ n = 0 := by
    rcases Nat.eq_zero_or_pos n with h | h
    · exact .inr h
    · obtain ⟨g, c, hv, hg, hg2⟩ := row_form hown h
      exact .inl (by omega)
  clear hln
  go_enter Tryd.func11, Tryd.ntmps11
  go_wp2
  go_loopw [1, 5] (fun x i wr => ∃ j : Nat, j ≤ n ∧ i = .int .i64 j ∧ x = .int .i64 ((k0 + j : Nat) : Int) ∧ wr.ownsRow base 9 1 (.slice A n cap) n (txs (mks k0 j ++ l.drop j)) ∧ Below base w wr ∧ Hid (FarB (Value.slice A n cap).ownBlock w wr)) (fun _ i _ => n - (intOf i).toNat)
  case atStart => exact ⟨0, Nat.zero_le _, rfl, rfl, by simpa [mks] using hown, Below.refl _ _, Lib.hid (FarB.refl _ _)⟩
  case round =>
    obtain ⟨j, hj, rfl, rfl, hown, hB, hF⟩ := hrel
    obtain ⟨wq, hwq⟩ : ∃ wq : World, wq = wr := ⟨_, rfl⟩
    subst hwq
    by_cases hlt : j < n
    · obtain ⟨g, c, hv, hg, hg2⟩ := row_form hown (by omega)
      injection hv with e1 _ e3
      subst e1 e3
      go_wp2_with fail
      refine (markText_any (k0 + j) (by omega) (by omega) _).mono ?_
      rintro e w2 ⟨rfl, hb2⟩
      obtain ⟨q, r, hd⟩ : ∃ q r, l.drop j = q :: r := by
        cases h : l.drop j with
        | nil => have h1 := congrArg List.length h; have h2 := HLN.out; simp at h1; omega
        | cons q r => exact ⟨q, r, rfl⟩
      have hown2 := own_below hown hb2
      have hlen : (mks k0 j ++ l.drop j).length = n := by have := HLN.out; simp [mks_len]; omega
      have f0 := hown2.frozenAt j
      have e0 := (hown2.cellAt j (by omega)).trans (txs_get (mks k0 j ++ l.drop j) j (by omega))
      generalize (mks k0 j ++ l.drop j)[j] = a0 at e0
      have hs1 := (hown2.stored j (.string (str (mtx (k0 + j))))).1
      rw [txs_set, hd, set_at _ _ _ _ j (mks_len k0 j)] at hs1
      have hr : l.drop (j + 1) = r := by
        have := congrArg List.tail hd
        simpa using this
      rw [← mks_next, ← hr] at hs1
      have HS := Lib.hid hs1
      have hB2 := hB.trans (hb2.mono (by have := hg2; omega))
      have hF2 : FarB (some g) w w2 := ⟨Nat.le_trans hF.out.1 hb2.size, fun i hne hi => (hb2.block i (Nat.lt_of_lt_of_le hi hF.out.1)).trans (hF.out.2 i hne hi)⟩
      have HF3 := Lib.hid (hF2.set j (.string (str (mtx (k0 + j)))))
      have hz2 := hb2.size
      clear hown hown2 hs1 hd hr hlen hb2 hB hF hF2
      generalize mtx (k0 + j) = y at HS HF3
      go_wp2
      go_roundw
      case rel => exact ⟨j + 1, by omega, by go_num, congrArg (fun n => Value.int .i64 n) (by push_cast; omega), HS.out, hB2.setCell hg _, HF3⟩
      case measure => simp [intOf]; omega
    · obtain rfl : j = n := by omega
      have hz : mks k0 j ++ l.drop j = mks k0 j := by rw [List.drop_of_length_le (by rw [HLN.out]; exact Nat.le_refl _), List.append_nil]
      rw [hz] at hown
      have HS := Lib.hid hown
      clear hown hz
      go_wp2
      go_ret
      exact ⟨congrArg (fun n => Ending.returned (.int .i64 n)) (by push_cast; rfl), HS.out, hB, hF.out⟩

set_option maxRecDepth 100000 in
set_option maxHeartbeats 2000000 in
theorem heldStringS_any (n k0 base : Nat) (v : Value) (w : World) (hown : w.ownsRow base 9 1 v n (txs (mks k0 n))) (hn : n ≤ 100000) (hk0 : 1 ≤ k0) (hk1 : k0 ≤ 1000) :
    Calls Tryd.prog 12 #[v, .int .i64 k0] w fun e w' => e = .returned (.int .i64 ((k0 : Int) + n)) ∧ Below w.heap.size w w' := by
  obtain ⟨A, cap, rfl, hcap, _, hat, _⟩ := st_own (l := mks k0 n) (by rw [mks_len]; exact hown)
  rw [mks_len] at hown hcap ⊢
  have HA := Lib.hid hat
  clear hat hown
  go_enter Tryd.func12, Tryd.ntmps12
  go_wp2
  go_loopw [1, 5] (fun x i wr => ∃ j : Nat, j ≤ n ∧ i = .int .i64 j ∧ x = .int .i64 ((k0 + j : Nat) : Int) ∧ Below w.heap.size w wr) (fun _ i _ => n - (intOf i).toNat)
  case atStart => exact ⟨0, Nat.zero_le _, rfl, rfl, Below.refl _ _⟩
  case round =>
    obtain ⟨j, hj, rfl, rfl, hB⟩ := hrel
    obtain ⟨wq, hwq⟩ : ∃ wq : World, wq = wr := ⟨_, rfl⟩
    subst hwq
    by_cases hlt : j < n
    · obtain ⟨g, rfl, z, c0⟩ := (HA.out.below hB) j (by rw [mks_len]; exact hlt)
      rw [mks_at] at c0
      have MT := Lib.hid (fun wx => markText_any (k0 + j) (by omega) (by omega) wx)
      generalize mtx (k0 + j) = y at c0 MT
      have i1 : (0 : Int) ≤ (j : Int) := by omega
      have i2 : (j : Int) < (n : Int) := by omega
      have he : ((str y).toList == (str y).toList) = true := by simp
      go_wp2
      go_region_held3 (fun w' => w'.cell? ⟨g, j, none⟩ = some (.string (str y))) (first | exact c0 | exact (hb.cell z).trans c0) (first | (go_at_call 32; refine (MT.out _).mono ?_; rintro e w' ⟨rfl, hb⟩))
      go_wp2
      go_roundw
      case rel => exact ⟨j + 1, by omega, by go_num, congrArg (fun n => Value.int .i64 n) (by push_cast; omega), (Below.drew hB).trans (hb.mono hB.size)⟩
      case measure => simp [intOf]; omega
    · obtain rfl : j = n := by omega
      go_wp2
      go_ret
      exact ⟨congrArg (fun n => Ending.returned (.int .i64 n)) (by push_cast; rfl), hB⟩
end Go.Proofs.YtdcbjbmnkajjcaaDoor
