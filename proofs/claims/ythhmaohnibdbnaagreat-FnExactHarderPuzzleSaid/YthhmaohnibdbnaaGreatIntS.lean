/- Lists of ints in memory: the laws' own functions on them, the model's test of all, and a slice of ints that came in. -/
import Derived.Test.YthhmaohnibdbnaaGreatMoves
import Derived.ProofKit
import Derived.OpenShut
namespace Go.Proofs.YthhmaohnibdbnaaGreat
open Go.ChangeShapes Go.WideShapes Go.ChangeAt Go.RowKit

theorem Tryz.infoN : (Tryz.prog.info? 3).map (fun i => (i.zero, i.size, i.bytes)) = some (some (.int .i64 0), 1, 8) := by kernel_rfl
/-- Ints as cells. -/
def itx (l : List Int) : List Value := l.map fun n => .int .i64 n
theorem itx_len (l : List Int) : (itx l).length = l.length := by simp [itx]
theorem itx_app (a b : List Int) : itx (a ++ b) = itx a ++ itx b := by simp [itx]
theorem itx_get (l : List Int) (k : Nat) (h : k < l.length) : (itx l)[k]? = some (.int .i64 l[k]) := by simp [itx, h]
theorem itx_set (l : List Int) (j : Nat) (x : Int) : (itx l).set j (.int .i64 x) = itx (l.set j x) := by simp [itx, List.map_set]
/-- A slice's address leads to a list of ints, wherever it begins. -/
def InAt (w : World) (A : Option Addr) (l : List Int) : Prop :=
  ∀ k (h : k < l.length), ∃ g o, A = some ⟨g, o, none⟩ ∧ g < w.heap.size ∧ w.cell? ⟨g, o + k, none⟩ = some (.int .i64 l[k])
theorem InAt.below {w w' : World} {A : Option Addr} {l : List Int} (h : InAt w A l) (hb : Below w.heap.size w w') : InAt w' A l := by
  intro k hk
  obtain ⟨g, o, a, b, c⟩ := h k hk
  exact ⟨g, o, a, Nat.lt_of_lt_of_le b hb.size, (hb.cell (p := ⟨g, o + k, none⟩) b).trans c⟩
theorem in_own {w : World} {base : Nat} {e : TypeId} {v : Value} {l : List Int} (h : w.ownsRow base e 1 v l.length (itx l)) : ∃ A cap, v = .slice A l.length cap ∧ l.length ≤ cap ∧ cap ≤ maxLen ∧ InAt w A l := by
  rcases h.2 with ⟨hv, h0⟩ | ⟨g, cap, cur, rfl, hg, hh, hn, hm, _⟩
  · have h2 : l.length = 0 := by have h3 := itx_len l; have h4 := h.1; omega
    exact ⟨none, 0, by rw [hv, h2], by omega, by simp [maxLen], fun k hk => by omega⟩
  · refine ⟨_, cap, rfl, hn, hm, fun k hk => ⟨g, 0, rfl, ?_, ?_⟩⟩
    · by_cases hlt : g < w.heap.size
      · exact hlt
      · rw [Array.getElem?_eq_none (by omega)] at hh; cases hh
    · rw [Nat.zero_add]
      exact (h.cellAt k (by omega)).trans (itx_get l k hk)
theorem iset_at (A B : List Int) (q p : Int) (j : Nat) (h : A.length = j) : (A ++ q :: B).set j p = (A ++ [p]) ++ B := by
  subst h
  simp
theorem irow_form {w : World} {base n : Nat} {e : TypeId} {v : Value} {vs : List Value} (ho : w.ownsRow base e 1 v n vs) (hn : 0 < n) : ∃ g cap, v = .slice (some ⟨g, 0, none⟩) n cap ∧ base ≤ g ∧ g < w.heap.size := by
  obtain ⟨hlen, h2 | ⟨g, cap, cur, rfl, hb, hg, hle, hm, hs, ht⟩⟩ := ho
  · omega
  · exact ⟨g, cap, rfl, hb, (Array.getElem?_eq_some_iff.1 hg).1⟩

theorem addr_at (g o j : Nat) : (⟨g, o, none⟩ : Addr).add j = ⟨g, o + j, none⟩ := by
  unfold Addr.add
  split
  · simp_all
  · rfl
set_option maxRecDepth 100000 in
theorem row_ints_n {H : Type} (enc : TypeId × Value → H) (W : World) (base : Nat) (v : Value) (d : DataW H) (p : List MemPlace)
    (hv : Value.okWide Tryz.prog W .any base 44 v) (h : DataW.Trod enc Tryz.prog W 0 (fun _ => true) true 44 v d p) :
    ∃ (a : Option Addr) (len cap : Nat) (l : List Int), v = .slice a len cap ∧ (len = l.length ∧ len ≤ maxLen ∧ InAt W a l ∧ ∀ z ∈ l, (Lit.int .i64 z).wf = true) := by
  obtain ⟨a0, len, cap, rfl⟩ := okWide_slice Tryz.underlying44 hv
  obtain ⟨fuel, hf⟩ := h
  rcases open_ints Tryz.underlying44 Tryz.underlying3 (by kernel_rfl) hf with ⟨hcs, _⟩ | ⟨a, len', cap', zs, hcs, _, hl, hmax, hz, _, hi, hw⟩
  · simp [Value.cells] at hcs
    obtain ⟨rfl, rfl, rfl⟩ := hcs
    exact ⟨none, 0, 0, [], rfl, rfl, Nat.zero_le _, fun k hk => by simp at hk, fun z hz => by cases hz⟩
  · simp [Value.cells] at hcs
    obtain ⟨rfl, rfl, rfl⟩ := hcs
    have hz : zs.length = cap := by simpa using hz
    refine ⟨some a, len, cap, zs.take len, rfl, by rw [List.length_take]; omega, Nat.le_trans hl hmax, fun k hk => ?_, fun z hz => hw z (List.mem_of_mem_take hz)⟩
    have hk' : k < len := by rw [List.length_take] at hk; omega
    obtain ⟨g, o, spot⟩ := a
    have h0 := hi 0 (by omega)
    have hspot : spot = none := by simpa [Addr.add] using World.cell?_spot h0
    subst hspot
    have hk2 := hi k (by omega)
    rw [addr_at] at hk2
    refine ⟨g, o, rfl, ?_, ?_⟩
    · by_cases hlt : g < W.heap.size
      · exact hlt
      · exfalso
        unfold World.cell? at hk2
        simp [Array.getElem?_eq_none (Nat.le_of_not_lt hlt)] at hk2
    · rw [hk2, List.getElem_take, List.getD_eq_getElem?_getD, List.getElem?_eq_getElem (by omega)]
      rfl

set_option maxRecDepth 100000 in
set_option maxHeartbeats 2000000 in
theorem eqIntS_same (l : List Int) (A1 A2 : Option Addr) (c1 c2 : Nat) (w : World) (h1 : InAt w A1 l) (h2 : InAt w A2 l) (hl : l.length ≤ 2000000) :
    Calls Tryz.prog 31 #[.slice A1 l.length c1, .slice A2 l.length c2] w fun e w' => e = .returned (.bool true) ∧ Below w.heap.size w w' := by
  have H1 := Lib.hid h1
  have H2 := Lib.hid h2
  clear h1 h2
  go_enter Tryz.func31, Tryz.ntmps31
  go_wp2
  go_loopw [5] (fun i wr => ∃ k : Nat, k ≤ l.length ∧ i = .int .i64 k ∧ Below w.heap.size w wr) (fun i _ => l.length - (intOf i).toNat)
  case atStart => exact ⟨0, Nat.zero_le _, rfl, Below.refl _ _⟩
  case round =>
    obtain ⟨k, hk, rfl, hB⟩ := hrel
    by_cases hlt : k < l.length
    · obtain ⟨g, o, rfl, z1, p1⟩ := (H1.out.below hB) k hlt
      obtain ⟨g', o', rfl, z2, p2⟩ := (H2.out.below hB) k hlt
      generalize l[k] = a at p1 p2
      have i1 : (0 : Int) ≤ (k : Int) := by omega
      have i2 : (k : Int) < (l.length : Int) := by omega
      have hHB := Lib.hid hB
      clear hB
      go_wp2
      go_region
      go_wp2
      first
        | exact ⟨⟨k + 1, by omega, by go_num, Below.drew hHB.out⟩, by simp [intOf]; omega⟩
        | (go_roundw
           case rel => exact ⟨k + 1, by omega, by go_num, Below.drew hHB.out⟩
           case measure => simp [intOf]; omega)
    · go_wp2
      go_ret
      exact ⟨rfl, hB⟩

/-- The marks: k, k + 1, .. -/
def imk (k n : Nat) : List Int := (List.range n).map fun (j : Nat) => ((k + j : Nat) : Int)
theorem imk_len (k n : Nat) : (imk k n).length = n := by simp [imk]
theorem imk_next (k n : Nat) : imk k (n + 1) = imk k n ++ [((k + n : Nat) : Int)] := by simp [imk, List.range_succ]
theorem imk_at (k n j : Nat) (h : j < (imk k n).length) : (imk k n)[j] = ((k + j : Nat) : Int) := by simp [imk]

set_option maxRecDepth 100000 in
set_option maxHeartbeats 2000000 in
theorem markIntS_any (n k0 base : Nat) (l : List Int) (v : Value) (w : World) (hln : l.length = n) (hown : w.ownsRow base 3 1 v n (itx l)) (hn : n ≤ 100000) (hk1 : k0 ≤ 1000) :
    Calls Tryz.prog 32 #[v, .int .i64 k0] w fun e w' => e = .returned (.int .i64 ((k0 + n : Nat) : Int)) ∧ w'.ownsRow base 3 1 v n (itx (imk k0 n)) ∧ Below base w w' := by
  rcases hown.2 with ⟨rfl, h0⟩ | ⟨g, cap, cur, rfl, hg, _, hcap, _⟩
  · have hz : n = 0 := by have h3 := itx_len l; have h4 := hown.1; omega
    subst hz
    have HO : Hid (w.ownsRow base 3 1 (.slice none 0 0) 0 (itx (imk k0 0))) := Lib.hid (by
      have e : itx l = itx (imk k0 0) := by rw [List.eq_nil_of_length_eq_zero hln]; rfl
      rw [← e]; exact hown)
    clear hown h0
    go_enter Tryz.func32, Tryz.ntmps32
    go_wp2
    go_loop [1, 5] (fun x i => i = .int .i64 0 ∧ x = .int .i64 k0) (fun _ _ => 0)
    case atStart => exact ⟨rfl, rfl⟩
    case round =>
      obtain ⟨rfl, rfl⟩ := hrel
      go_wp2
      go_ret
      exact ⟨by simp, HO.out, Below.refl _ _⟩
  · have HO := Lib.hid hown
    clear hown
    go_enter Tryz.func32, Tryz.ntmps32
    go_wp2
    go_loopw [1, 5] (fun x i wr => ∃ j : Nat, j ≤ n ∧ i = .int .i64 j ∧ x = .int .i64 ((k0 + j : Nat) : Int) ∧ Hid (wr.ownsRow base 3 1 (.slice (some ⟨g, 0, none⟩) n cap) n (itx (imk k0 j ++ l.drop j))) ∧ Below base w wr) (fun _ i _ => n - (intOf i).toNat)
    case atStart => exact ⟨0, Nat.zero_le _, rfl, by simp, Lib.hid (by simpa [imk] using HO.out), Below.refl _ _⟩
    case round =>
      obtain ⟨j, hj, rfl, rfl, hown, hB⟩ := hrel
      by_cases hlt : j < n
      · obtain ⟨q, r, hd⟩ : ∃ q r, l.drop j = q :: r := by
          cases h : l.drop j with
          | nil => have := congrArg List.length h; simp at this; omega
          | cons q r => exact ⟨q, r, rfl⟩
        have hlen : (imk k0 j ++ l.drop j).length = n := by simp [imk_len]; omega
        have f0 := hown.out.frozenAt j
        have e0 := (hown.out.cellAt j (by omega)).trans (itx_get (imk k0 j ++ l.drop j) j (by omega))
        generalize (imk k0 j ++ l.drop j)[j]'(by omega) = a0 at e0
        have hs1 := (hown.out.stored j (.int .i64 ((k0 + j : Nat) : Int))).1
        rw [itx_set, hd, iset_at _ _ _ _ j (imk_len k0 j)] at hs1
        have hr : l.drop (j + 1) = r := by
          have := congrArg List.tail hd
          simpa using this
        have hm : imk k0 (j + 1) ++ l.drop (j + 1) = imk k0 j ++ [((k0 + j : Nat) : Int)] ++ r := by
          rw [imk_next, hr]
        rw [← hm] at hs1
        have HS := Lib.hid hs1
        have i1 : (0 : Int) ≤ (j : Int) := by omega
        have i2 : (j : Int) < (n : Int) := by omega
        clear hown hs1 hm hr hd hlen
        go_wp2
        go_roundw
        case rel =>
          refine ⟨j + 1, by omega, by go_num, congrArg (fun n => Value.int .i64 n) (by omega), HS, hB.setCell hg _⟩
        case measure => simp [intOf]; omega
      · obtain rfl : j = n := by omega
        have HS : Hid (wr.ownsRow base 3 1 (.slice (some ⟨g, 0, none⟩) j cap) j (itx (imk k0 j))) := Lib.hid (by
          have h := hown.out
          rwa [List.drop_of_length_le (by omega), List.append_nil] at h)
        clear hown
        go_wp2
        go_ret
        exact ⟨rfl, HS.out, hB⟩

set_option maxRecDepth 100000 in
set_option maxHeartbeats 2000000 in
theorem heldIntS_any (n k0 base : Nat) (v : Value) (w : World) (hown : w.ownsRow base 3 1 v n (itx (imk k0 n))) (hn : n ≤ 100000) (hk0 : k0 ≤ 1000) :
    Calls Tryz.prog 33 #[v, .int .i64 k0] w fun e w' => e = .returned (.int .i64 ((k0 + n : Nat) : Int)) ∧ w = w' := by
  obtain ⟨A, cap, rfl, hat⟩ : ∃ A cap, v = .slice A n cap ∧ InAt w A (imk k0 n) := by
    have h := in_own (l := imk k0 n) (by rw [imk_len]; exact hown)
    obtain ⟨A, c, h1, _, _, h2⟩ := h
    rw [imk_len] at h1
    exact ⟨A, c, h1, h2⟩
  have HA := Lib.hid hat
  clear hat hown
  go_enter Tryz.func33, Tryz.ntmps33
  go_wp2
  go_loop [1, 5] (fun x i => ∃ j : Nat, j ≤ n ∧ i = .int .i64 j ∧ x = .int .i64 ((k0 + j : Nat) : Int)) (fun _ i => n - (intOf i).toNat)
  case atStart => exact ⟨0, Nat.zero_le _, rfl, by simp⟩
  case round =>
    obtain ⟨j, hj, rfl, rfl⟩ := hrel
    by_cases hlt : j < n
    · obtain ⟨g, o, rfl, z, c0⟩ := HA.out j (by rw [imk_len]; exact hlt)
      rw [imk_at] at c0
      have i1 : (0 : Int) ≤ (j : Int) := by omega
      have i2 : (j : Int) < (n : Int) := by omega
      go_wp2
      go_round
      case rel => exact ⟨j + 1, by omega, by go_num, congrArg (fun n => Value.int .i64 n) (by omega)⟩
      case measure => simp [intOf]; omega
    · obtain rfl : j = n := by omega
      go_wp2
      go_ret
      exact ⟨rfl, rfl⟩
end Go.Proofs.YthhmaohnibdbnaaGreat
