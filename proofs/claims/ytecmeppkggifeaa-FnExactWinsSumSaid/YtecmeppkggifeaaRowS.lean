/- A slice of texts that came in, opened; the laws' copies of lists of texts. -/
import Derived.Test.YtecmeppkggifeaaList
import Derived.Test.YtecmeppkggifeaaGmB
import Derived.ProofKit
import Derived.OpenShut
import Derived.SliceStrings
namespace Go.Proofs.Ytecmeppkggifeaa
open Go.ChangeShapes Go.WideShapes Go.ChangeAt Go.RowKit Go.Deep

set_option maxRecDepth 100000 in
theorem row_moves_t {H : Type} (enc : TypeId × Value → H) (W : World) (base : Nat) (v : Value) (d : DataW H) (p : List MemPlace)
    (hv : Value.okWide Try.prog W .any base 38 v) (h : DataW.Trod enc Try.prog W 0 (fun _ => true) true 38 v d p) :
    ∃ (a : Option Addr) (len cap : Nat) (l : List (List UInt8)), v = .slice a len cap ∧ (len = l.length ∧ len ≤ maxLen ∧ StO W a l ∧ ∀ x ∈ l, x.length ≤ maxLen) := by
  obtain ⟨a0, len, cap, rfl⟩ := okWide_slice Try.underlying38 hv
  obtain ⟨fuel, hf⟩ := h
  rcases open_strings Try.underlying38 Try.underlying9 (by kernel_rfl) hf with ⟨hcs, _⟩ | ⟨a, len', cap', ss, hcs, _, hl, hmax, hss, _, hi, hsz⟩
  · simp [Value.cells] at hcs
    obtain ⟨rfl, rfl, rfl⟩ := hcs
    exact ⟨none, 0, 0, [], rfl, rfl, Nat.zero_le _, (fun k hk => by simp at hk), fun x hx => by simp at hx⟩
  · simp [Value.cells] at hcs
    obtain ⟨rfl, rfl, rfl⟩ := hcs
    have hm : len ≤ ss.length := by rw [hss]; simpa using hl
    refine ⟨some a, len, cap, (ss.take len).map byt, rfl, by simp; omega, Nat.le_trans hl hmax, fun k hk => ?_, fun x hx => ?_⟩
    · have hk' : k < len := by simp at hk; omega
      have hks : k < ss.length := by omega
      obtain ⟨g, o, spot⟩ := a
      have h0 := hi 0 (by omega)
      have hspot : spot = none := by simpa [Addr.add] using World.cell?_spot h0
      subst hspot
      have e := hi k hks
      rw [addr_off] at e
      refine ⟨g, o, rfl, ?_, ?_⟩
      · by_cases hlt : g < W.heap.size
        · exact hlt
        · exfalso
          unfold World.cell? at e
          simp [Array.getElem?_eq_none (Nat.le_of_not_lt hlt)] at e
      · rw [e, List.getD_eq_getElem?_getD, List.getElem?_eq_getElem hks]
        simp [str_byt]
    · obtain ⟨s, hs, rfl⟩ := List.mem_map.1 hx
      rw [byt_len]
      exact hsz s (List.mem_of_mem_take hs)

theorem made_txs (n : Nat) : (madeCells (Value.string ByteArray.empty).cells (n * 1)).toList = txs (List.replicate n []) := by
  have hz : (Value.string ByteArray.empty).cells = #[.string ByteArray.empty] := rfl
  rw [hz]
  apply List.ext_getElem?
  intro i
  by_cases hi : i < n
  · have f : (txs (List.replicate n []))[i]? = some (.string ByteArray.empty) := by simp [txs, hi]; rfl
    rw [f]
    simp [madeCells, hi, Nat.mod_one]
  · have l1 : (madeCells #[Value.string ByteArray.empty] (n * 1)).toList.length ≤ i := by simp [madeCells]; omega
    have l2 : (txs (List.replicate n [])).length ≤ i := by rw [txs_len]; simp; omega
    rw [List.getElem?_eq_none l1, List.getElem?_eq_none l2]

set_option maxRecDepth 100000 in
set_option maxHeartbeats 2000000 in
theorem toStringS_any (l : List (List UInt8)) (A : Option Addr) (c : Nat) (w : World) (hin : StO w A l) (hl : l.length ≤ 2000000) :
    Calls Try.prog 34 #[.slice A l.length c] w fun e w' => e = .returned (.slice (some ⟨w.heap.size, 0, none⟩) l.length l.length) ∧ (w'.ownsRow w.heap.size 9 1 (.slice (some ⟨w.heap.size, 0, none⟩) l.length l.length) l.length (txs l) ∧ Below w.heap.size w w') := by
  obtain ⟨i0, hi, hz0, hz1, hz2⟩ := info_parts Try.infoS
  have hbytes : i0.bytes * l.length ≤ 281474976710656 := by rw [hz2]; omega
  have hmx : l.length ≤ maxLen := by unfold maxLen; omega
  have HI := Lib.hid hi
  have HZ0 := Lib.hid hz0
  have HZ1 := Lib.hid hz1
  have HN := Lib.hid hin
  clear hi hz0 hz1 hz2 hin
  go_enter Try.func34, Try.ntmps34
  go_wp2_with (at_make; refine wpList_make_full _ rfl (.tmp 6) (.tmp 6) 38 rfl w.heap.size 9 i0 (.string ByteArray.empty) 1 Try.underlying38 HI.out HZ0.out HZ1.out .i64 .i64 l.length l.length l.length rfl rfl rfl rfl hbytes hmx (Nat.le_refl _) ?_; intro w1 hown hgrow)
  have hB0 : Below w.heap.size w w1 := (Below.refl _ _).grown hgrow (Nat.le_refl _) (by simp)
  rw [made_txs] at hown
  have hz : w.heap.size < w1.heap.size := (hown.lt w.heap.size rfl).2
  have HO := Lib.hid hown
  clear hown hgrow HI HZ0 HZ1 hbytes
  go_loopw [4] (fun i wr => ∃ j : Nat, j ≤ l.length ∧ i = .int .i64 j ∧ wr.ownsRow w.heap.size 9 1 (.slice (some ⟨w.heap.size, 0, none⟩) l.length l.length) l.length (txs (l.take j ++ List.replicate (l.length - j) [])) ∧ Below w.heap.size w wr) (fun i _ => l.length - (intOf i).toNat)
  case atStart => exact ⟨0, Nat.zero_le _, rfl, by simpa using HO.out, hB0⟩
  case round =>
    obtain ⟨j, hj, rfl, hown, hB⟩ := hrel
    clear hB0 HO
    by_cases hlt : j < l.length
    · obtain ⟨g, o, rfl, hg, c0⟩ := (HN.out.below hB) j hlt
      have hT : Hid (l.take (j + 1) ++ List.replicate (l.length - (j + 1)) [] = (l.take j ++ List.replicate (l.length - j) []).set j l[j]) := by
        show _ = _
        obtain ⟨m, hm⟩ : ∃ m, l.length - j = m + 1 := ⟨l.length - j - 1, by omega⟩
        rw [hm, show l.length - (j + 1) = m by omega, List.replicate_succ, set_at _ _ _ _ j (by rw [List.length_take]; omega), List.take_succ_eq_append_getElem hlt]
      generalize l[j] = x at c0 hT
      have hlen : (l.take j ++ List.replicate (l.length - j) ([] : List UInt8)).length = l.length := by simp; omega
      have i1 : (0 : Int) ≤ (j : Int) := by omega
      have i2 : (j : Int) < (l.length : Int) := by omega
      have f0 := hown.frozenAt j
      have d0 := hown.cellAt j (by omega)
      rw [txs_get _ j (by omega)] at d0
      have HO := Lib.hid hown
      have HB := Lib.hid hB
      clear hown hB
      go_wp2
      go_roundw
      case rel =>
        refine ⟨j + 1, by omega, by go_num, ?_, HB.out.setCell (Nat.le_refl _) _⟩
        have := (HO.out.stored j (.string (str x))).1
        rw [hT.out, ← txs_set]
        exact this
      case measure => simp [intOf]; omega
    · go_wp2
      go_ret
      obtain rfl : j = l.length := by omega
      exact ⟨rfl, by simpa using hown, hB⟩

set_option maxRecDepth 100000 in
set_option maxHeartbeats 2000000 in
theorem szStringS_any (l : List (List UInt8)) (A : Option Addr) (c : Nat) (w : World) (hin : StO w A l) (hl : l.length ≤ maxLen) (hsz : ∀ x ∈ l, x.length ≤ maxLen) :
    Calls Try.prog 32 #[.slice A l.length c, .int .i64 1048576] w fun e w' => ∃ r : Int, e = .returned (.int .i64 r) ∧ (r < 0 ∨ (l.length ≤ 1048576 ∧ ∀ x ∈ l, x.length ≤ 1048576)) ∧ w = w' := by
  have HN := Lib.hid hin
  have HSZ := Lib.hid hsz
  clear hin hsz
  unfold maxLen at hl
  by_cases hbig : (l.length : Int) ≤ 1048576
  · go_enter Try.func32, Try.ntmps32
    go_wp2
    go_loop [1, 5] (fun a i => ∃ (k : Nat) (r : Int), k ≤ l.length ∧ i = .int .i64 k ∧ a = .int .i64 r ∧ 0 ≤ r ∧ r ≤ 1048576 ∧ Hid (∀ j (h : j < l.length), j < k → l[j].length ≤ 1048576)) (fun _ i => l.length - (intOf i).toNat)
    case atStart => exact ⟨0, _, Nat.zero_le _, rfl, rfl, by omega, by omega, Lib.hid fun j _ h => by omega⟩
    case round =>
      obtain ⟨k, r, hk, rfl, rfl, h0, h1, HG⟩ := hrel
      by_cases hlt : k < l.length
      · obtain ⟨g, o, rfl, hg, c0⟩ := HN.out k hlt
        have hx := HSZ.out _ (List.getElem_mem hlt)
        have HX : Hid (∀ n, (n : Nat) = l[k].length → n ≤ 1048576 → ∀ j (h : j < l.length), j < k + 1 → l[j].length ≤ 1048576) := Lib.hid fun n hn hle j hj hjk => by
          by_cases e : j = k
          · subst e; omega
          · exact HG.out j hj (by omega)
        generalize hxx : l[k] = x at c0 hx HX
        clear hxx
        have hsx := str_size x
        unfold maxLen at hx
        have i1 : (0 : Int) ≤ (k : Int) := by omega
        have i2 : (k : Int) < (l.length : Int) := by omega
        by_cases hle : (x.length : Int) ≤ r
        · have HX2 := Lib.hid (HX.out _ rfl (by omega))
          go_wp2
          go_round
          case rel => exact ⟨k + 1, _, by omega, by go_num, rfl, by omega, by omega, HX2⟩
          case measure => simp [intOf]; omega
        · go_wp2
          go_ret
          exact ⟨-1, rfl, .inl (by omega), rfl⟩
      · go_wp2
        go_ret
        obtain rfl : k = l.length := by omega
        refine ⟨r, rfl, .inr ⟨by omega, fun x hx => ?_⟩, rfl⟩
        obtain ⟨j, hj, rfl⟩ := List.getElem_of_mem hx
        exact HG.out j hj hj
  · go_enter Try.func32, Try.ntmps32
    go_wp2
    go_ret
    exact ⟨-1, rfl, .inl (by omega), rfl⟩
end Go.Proofs.Ytecmeppkggifeaa
