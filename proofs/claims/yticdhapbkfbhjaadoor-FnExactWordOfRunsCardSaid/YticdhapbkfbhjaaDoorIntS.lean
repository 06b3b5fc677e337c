/- Lists of ints in memory: the laws' own functions on them, the model's test of all, and a slice of ints that came in. -/
import Derived.Test.YticdhapbkfbhjaaDoorMarks
import Derived.ProofKit
import Derived.OpenShut
namespace Go.Proofs.YticdhapbkfbhjaaDoor
open Go.ChangeShapes Go.WideShapes Go.ChangeAt Go.RowKit

theorem Tryd.infoN : (Tryd.prog.info? 3).map (fun i => (i.zero, i.size, i.bytes)) = some (some (.int .i64 0), 1, 8) := by kernel_rfl
/-- Ints as cells. -/
def itx (l : List Int) : List Value := l.map fun n => .int .i64 n
theorem itx_len (l : List Int) : (itx l).length = l.length := by simp [itx]
theorem itx_app (a b : List Int) : itx (a ++ b) = itx a ++ itx b := by simp [itx]
theorem itx_get (l : List Int) (k : Nat) (h : k < l.length) : (itx l)[k]? = some (.int .i64 l[k]) := by simp [itx, h]
theorem itx_set (l : List Int) (j : Nat) (x : Int) : (itx l).set j (.int .i64 x) = itx (l.set j x) := by simp [itx, List.map_set]
/-- A slice's address leads to a list of ints, wherever it begins. -/
def InAt (w : World) (A : Option Addr) (l : List Int) : Prop :=
  ∀ k (h : k < l.length), ∃ g o, A = some ⟨g, o, none⟩ ∧ g < w.heap.size ∧ w.cell? ⟨g, o + k, none⟩ = some (.int .i64 l[k])
theorem InAt.below {w w' : World} {A : Option Addr} {l : List Int} (h : InAt w A l) (hb : Below w.heap.size w w') : InAt w' A l := by
  intro k hk
  obtain ⟨g, o, a, b, c⟩ := h k hk
  exact ⟨g, o, a, Nat.lt_of_lt_of_le b hb.size, (hb.cell (p := ⟨g, o + k, none⟩) b).trans c⟩
theorem in_own {w : World} {base : Nat} {e : TypeId} {v : Value} {l : List Int} (h : w.ownsRow base e 1 v l.length (itx l)) : ∃ A cap, v = .slice A l.length cap ∧ l.length ≤ cap ∧ cap ≤ maxLen ∧ InAt w A l := by
  rcases h.2 with ⟨hv, h0⟩ | ⟨g, cap, cur, rfl, hg, hh, hn, hm, _⟩
  · have h2 : l.length = 0 := by have h3 := itx_len l; have h4 := h.1; omega
    exact ⟨none, 0, by rw [hv, h2], by omega, by simp [maxLen], fun k hk => by omega⟩
  · refine ⟨_, cap, rfl, hn, hm, fun k hk => ⟨g, 0, rfl, ?_, ?_⟩⟩
    · by_cases hlt : g < w.heap.size
      · exact hlt
      · rw [Array.getElem?_eq_none (by omega)] at hh; cases hh
    · rw [Nat.zero_add]
      exact (h.cellAt k (by omega)).trans (itx_get l k hk)
theorem iset_at (A B : List Int) (q p : Int) (j : Nat) (h : A.length = j) : (A ++ q :: B).set j p = (A ++ [p]) ++ B := by
  subst h
  simp
theorem irow_form {w : World} {base n : Nat} {e : TypeId} {v : Value} {vs : List Value} (ho : w.ownsRow base e 1 v n vs) (hn : 0 < n) : ∃ g cap, v = .slice (some ⟨g, 0, none⟩) n cap ∧ base ≤ g ∧ g < w.heap.size := by
  obtain ⟨hlen, h2 | ⟨g, cap, cur, rfl, hb, hg, hle, hm, hs, ht⟩⟩ := ho
  · omega
  · exact ⟨g, cap, rfl, hb, (Array.getElem?_eq_some_iff.1 hg).1⟩

theorem addr_at (g o j : Nat) : (⟨g, o, none⟩ : Addr).add j = ⟨g, o + j, none⟩ := by
  unfold Addr.add
  split
  · simp_all
  · rfl
set_option maxRecDepth 100000 in
theorem row_ints_n {H : Type} (enc : TypeId × Value → H) (W : World) (base : Nat) (v : Value) (d : DataW H) (p : List MemPlace)
    (hv : Value.okWide Tryd.prog W .any base 22 v) (h : DataW.Trod enc Tryd.prog W 0 (fun _ => true) true 22 v d p) :
    ∃ (a : Option Addr) (len cap : Nat) (l : List Int), v = .slice a len cap ∧ (len = l.length ∧ len ≤ maxLen ∧ InAt W a l ∧ ∀ z ∈ l, (Lit.int .i64 z).wf = true) := by
  obtain ⟨a0, len, cap, rfl⟩ := okWide_slice Tryd.underlying22 hv
  obtain ⟨fuel, hf⟩ := h
  rcases open_ints Tryd.underlying22 Tryd.underlying3 (by kernel_rfl) hf with ⟨hcs, _⟩ | ⟨a, len', cap', zs, hcs, _, hl, hmax, hz, _, hi, hw⟩
  · simp [Value.cells] at hcs
    obtain ⟨rfl, rfl, rfl⟩ := hcs
    exact ⟨none, 0, 0, [], rfl, rfl, Nat.zero_le _, fun k hk => by simp at hk, fun z hz => by cases hz⟩
  · simp [Value.cells] at hcs
    obtain ⟨rfl, rfl, rfl⟩ := hcs
    have hz : zs.length = cap := by simpa using hz
    refine ⟨some a, len, cap, zs.take len, rfl, by rw [List.length_take]; omega, Nat.le_trans hl hmax, fun k hk => ?_, fun z hz => hw z (List.mem_of_mem_take hz)⟩
    have hk' : k < len := by rw [List.length_take] at hk; omega
    obtain ⟨g, o, spot⟩ := a
    have h0 := hi 0 (by omega)
    have hspot : spot = none := by simpa [Addr.add] using World.cell?_spot h0
    subst hspot
    have hk2 := hi k (by omega)
    rw [addr_at] at hk2
    refine ⟨g, o, rfl, ?_, ?_⟩
    · by_cases hlt : g < W.heap.size
      · exact hlt
      · exfalso
        unfold World.cell? at hk2
        simp [Array.getElem?_eq_none (Nat.le_of_not_lt hlt)] at hk2
    · rw [hk2, List.getElem_take, List.getD_eq_getElem?_getD, List.getElem?_eq_getElem (by omega)]
      rfl

set_option maxHeartbeats 1000000 in
theorem l1AllN_any (A : Option Addr) (c : Nat) (zs : List Int) (lo hi : Int) (w : World) (hm : zs.length ≤ 1000) (hc : InAt w A zs) :
    Calls Tryd.prog 11 #[.slice A zs.length c, .int .i64 lo, .int .i64 hi] w fun e w' => e = .returned (.bool (zs.all (inR · lo hi))) ∧ w = w' := by
  have HN := Lib.hid hc
  clear hc
  go_enter Tryd.func11, Tryd.ntmps11
  go_wp2
  go_loop [8, 11] (fun n i => ∃ k : Nat, k ≤ zs.length ∧ i = .int .i64 k ∧ Hid ((zs.take k).all (inR · lo hi) = true)) (fun _ i => zs.length - (intOf i).toNat)
  case atStart => exact ⟨0, Nat.zero_le _, rfl, rfl⟩
  case round =>
    obtain ⟨k, hk, rfl, hA⟩ := hrel
    by_cases hlt : k < zs.length
    · obtain ⟨g, o, rfl, hg, hcell⟩ := HN.out k hlt
      have hts : Hid (zs.take (k + 1) = zs.take k ++ [zs[k]]) := Lib.hid (List.take_succ_eq_append_getElem hlt)
      generalize zs[k] = z at hcell hts
      have i1 : (0 : Int) ≤ (k : Int) := by omega
      have i2 : (k : Int) < (zs.length : Int) := by omega
      cases hz : inR z lo hi
      · have hZ := Lib.hid hz
        clear hz
        go_wp2_with (go_at_call 17; refine (l1In_any _ _ _ _).mono ?_; rintro e w' ⟨rfl, rfl⟩; rw [hZ.out])
        go_ret
        refine ⟨congrArg (fun b => Ending.returned (.bool b)) ?_, rfl⟩
        have e1 : (zs.take (k + 1)).all (inR · lo hi) = false := by
          rw [hts.out, List.all_append]
          simp [hZ.out]
        show false = zs.all (inR · lo hi)
        rw [← List.take_append_drop (k + 1) zs, List.all_append, e1]
        rfl
      · have hZ := Lib.hid hz
        clear hz
        go_wp2_with (go_at_call 17; refine (l1In_any _ _ _ _).mono ?_; rintro e w' ⟨rfl, rfl⟩; rw [hZ.out])
        go_round
        case rel =>
          refine ⟨k + 1, by omega, by go_num, ?_⟩
          show _ = _
          rw [hts.out, List.all_append, hA.out]
          simp [hZ.out]
        case measure => simp [intOf]; omega
    · go_wp2
      go_ret
      refine ⟨congrArg (fun b => Ending.returned (.bool b)) ?_, rfl⟩
      obtain rfl : k = zs.length := by omega
      have := hA.out
      rw [List.take_length] at this
      exact this.symm

set_option maxRecDepth 100000 in
set_option maxHeartbeats 2000000 in
theorem toIntS_any (l : List Int) (A : Option Addr) (c : Nat) (w : World) (hin : InAt w A l) (hl : l.length ≤ 2000000) :
    Calls Tryd.prog 6 #[.slice A l.length c] w fun e w' => e = .returned (.slice (some ⟨w.heap.size, 0, none⟩) l.length l.length) ∧ (w'.ownsRow w.heap.size 3 1 (.slice (some ⟨w.heap.size, 0, none⟩) l.length l.length) l.length (itx l) ∧ Below w.heap.size w w') := by
  obtain ⟨i0, hi, hz0, hz1, hz2⟩ := info_parts Tryd.infoN
  have hbytes : i0.bytes * l.length ≤ 281474976710656 := by rw [hz2]; omega
  have hmx : l.length ≤ maxLen := by unfold maxLen; omega
  have HI := Lib.hid hi
  have HZ0 := Lib.hid hz0
  have HZ1 := Lib.hid hz1
  have HN := Lib.hid hin
  clear hi hz0 hz1 hz2 hin
  go_enter Tryd.func6, Tryd.ntmps6
  go_wp2_with (at_make; refine wpList_make_full _ rfl (.tmp 6) (.tmp 6) 22 rfl w.heap.size 3 i0 (.int .i64 0) 1 Tryd.underlying22 HI.out HZ0.out HZ1.out .i64 .i64 l.length l.length l.length rfl rfl rfl rfl hbytes hmx (Nat.le_refl _) ?_; intro w1 hown hgrow)
  have hB0 : Below w.heap.size w w1 := (Below.refl _ _).grown hgrow (Nat.le_refl _) (by simp)
  have hown0 : Hid (w1.ownsRow w.heap.size 3 1 (.slice (some ⟨w.heap.size, 0, none⟩) l.length l.length) l.length (itx (l.take 0 ++ List.replicate (l.length - 0) 0))) := Lib.hid (by
    have e : (madeCells (Value.int .i64 0).cells (l.length * 1)).toList = itx (l.take 0 ++ List.replicate (l.length - 0) 0) := by
      rw [Nat.mul_one, made_one (.int .i64 0) rfl l.length]
      simp [itx]
    rw [← e]; exact hown)
  have HB0 := Lib.hid hB0
  clear hown hgrow HI HZ0 HZ1 hbytes hB0
  go_loopw [4] (fun i wr => ∃ j : Nat, j ≤ l.length ∧ i = .int .i64 j ∧ Hid (wr.ownsRow w.heap.size 3 1 (.slice (some ⟨w.heap.size, 0, none⟩) l.length l.length) l.length (itx (l.take j ++ List.replicate (l.length - j) 0))) ∧ Below w.heap.size w wr) (fun i _ => l.length - (intOf i).toNat)
  case atStart => exact ⟨0, Nat.zero_le _, rfl, hown0, HB0.out⟩
  case round =>
    obtain ⟨j, hj, rfl, hown, hB⟩ := hrel
    clear HB0 hown0
    by_cases hlt : j < l.length
    · obtain ⟨g, o, rfl, hg, c0⟩ := (HN.out.below hB) j hlt
      have hT : Hid (l.take (j + 1) ++ List.replicate (l.length - (j + 1)) 0 = (l.take j ++ List.replicate (l.length - j) 0).set j l[j]) := Lib.hid (by
        obtain ⟨m, hm⟩ : ∃ m, l.length - j = m + 1 := ⟨l.length - j - 1, by omega⟩
        rw [hm, show l.length - (j + 1) = m by omega, List.replicate_succ, iset_at _ _ _ _ j (by rw [List.length_take]; omega), List.take_succ_eq_append_getElem hlt])
      generalize l[j] = a at c0 hT
      have hlen : (l.take j ++ List.replicate (l.length - j) (0 : Int)).length = l.length := by simp; omega
      have i1 : (0 : Int) ≤ (j : Int) := by omega
      have i2 : (j : Int) < (l.length : Int) := by omega
      have f0 := hown.out.frozenAt j
      have e0 := (hown.out.cellAt j (by omega)).trans (itx_get _ j (by omega))
      generalize (l.take j ++ List.replicate (l.length - j) (0 : Int))[j]'(by omega) = x0 at e0
      have hs1 := (hown.out.stored j (.int .i64 a)).1
      rw [itx_set, ← hT.out] at hs1
      have HS := Lib.hid hs1
      clear hown hs1 hlen
      go_wp2
      go_roundw
      case rel => exact ⟨j + 1, by omega, by go_num, HS, hB.setCell (Nat.le_refl _) _⟩
      case measure => simp [intOf]; omega
    · obtain rfl : j = l.length := by omega
      have HS : Hid (wr.ownsRow w.heap.size 3 1 (.slice (some ⟨w.heap.size, 0, none⟩) l.length l.length) l.length (itx l)) := Lib.hid (by
        have h := hown.out
        rwa [List.take_length, Nat.sub_self, List.replicate_zero, List.append_nil] at h)
      clear hown
      go_wp2
      go_ret
      exact ⟨rfl, HS.out, hB⟩

set_option maxRecDepth 100000 in
set_option maxHeartbeats 2000000 in
theorem eqIntS_same (l : List Int) (A1 A2 : Option Addr) (c1 c2 : Nat) (w : World) (h1 : InAt w A1 l) (h2 : InAt w A2 l) (hl : l.length ≤ 2000000) :
    Calls Tryd.prog 8 #[.slice A1 l.length c1, .slice A2 l.length c2] w fun e w' => e = .returned (.bool true) ∧ Below w.heap.size w w' := by
  have H1 := Lib.hid h1
  have H2 := Lib.hid h2
  clear h1 h2
  go_enter Tryd.func8, Tryd.ntmps8
  go_wp2
  go_loopw [5] (fun i wr => ∃ k : Nat, k ≤ l.length ∧ i = .int .i64 k ∧ Below w.heap.size w wr) (fun i _ => l.length - (intOf i).toNat)
  case atStart => exact ⟨0, Nat.zero_le _, rfl, Below.refl _ _⟩
  case round =>
    obtain ⟨k, hk, rfl, hB⟩ := hrel
    by_cases hlt : k < l.length
    · obtain ⟨g, o, rfl, z1, p1⟩ := (H1.out.below hB) k hlt
      obtain ⟨g', o', rfl, z2, p2⟩ := (H2.out.below hB) k hlt
      generalize l[k] = a at p1 p2
      have i1 : (0 : Int) ≤ (k : Int) := by omega
      have i2 : (k : Int) < (l.length : Int) := by omega
      have hHB := Lib.hid hB
      clear hB
      go_wp2
      go_region
      go_wp2
      first
        | exact ⟨⟨k + 1, by omega, by go_num, Below.drew hHB.out⟩, by simp [intOf]; omega⟩
        | (go_roundw
           case rel => exact ⟨k + 1, by omega, by go_num, Below.drew hHB.out⟩
           case measure => simp [intOf]; omega)
    · go_wp2
      go_ret
      exact ⟨rfl, hB⟩

/-- The marks: k, k + 1, .. -/
def imk (k n : Nat) : List Int := (List.range n).map fun (j : Nat) => ((k + j : Nat) : Int)
theorem imk_len (k n : Nat) : (imk k n).length = n := by simp [imk]
theorem imk_next (k n : Nat) : imk k (n + 1) = imk k n ++ [((k + n : Nat) : Int)] := by simp [imk, List.range_succ]
theorem imk_at (k n j : Nat) (h : j < (imk k n).length) : (imk k n)[j] = ((k + j : Nat) : Int) := by simp [imk]

end Go.Proofs.YticdhapbkfbhjaaDoor
