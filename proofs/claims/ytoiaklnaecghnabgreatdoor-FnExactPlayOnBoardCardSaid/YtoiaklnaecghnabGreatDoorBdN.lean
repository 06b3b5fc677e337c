/- Contract: moves along lines of a board. -/
import Derived.Test.YtoiaklnaecghnabGreatDoorBdI
import Derived.Test.YtoiaklnaecghnabGreatDoorBdM
import Derived.Test.YtoiaklnaecghnabGreatDoorBdK
import Derived.Test.YtoiaklnaecghnabGreatDoorWalkV
import Derived.Deep.Upon
namespace Go.Proofs.YtoiaklnaecghnabGreatDoor
open Go.RowKit

/-- Rows of numbers in memory. -/
def NtAt (w : World) (gN : Nat) (n : Nat) (Cs : Nat → List Int) : Prop :=
  ∀ k, k < n → ∃ g o c, w.cell? ⟨gN, k, none⟩ = some (.slice (some ⟨g, o, none⟩) (Cs k).length c) ∧ g < w.heap.size ∧ ∀ j (hj : j < (Cs k).length), w.cell? ⟨g, o + j, none⟩ = some (.int .i64 (Cs k)[j])
theorem NtAt.below {w w' : World} {gN n : Nat} {Cs : Nat → List Int} (h : NtAt w gN n Cs) (hg : gN < w.heap.size) (hb : Below w.heap.size w w') : NtAt w' gN n Cs := fun k hk => by
  obtain ⟨g, o, c, h1, h2, h3⟩ := h k hk
  exact ⟨g, o, c, (hb.cell (p := ⟨gN, k, none⟩) hg).trans h1, Nat.lt_of_lt_of_le h2 hb.size, fun j hj => (hb.cell (p := ⟨g, o + j, none⟩) h2).trans (h3 j hj)⟩
theorem mem_mvsB (wd : Int → Int → Bool) (s : ByteArray) : ∀ (n : Nat) (p : Int × Int), p ∈ mvsTo wd s n ↔ ∃ k : Nat, k < n ∧ p = ((k : Int), mvTo s k) ∧ wd k (mvTo s k) = true
  | 0, p => by simp [mvsTo]
  | n + 1, p => by
    rw [mvsTo, List.mem_append, mem_mvsB wd s n p]
    constructor
    · rintro (⟨k, h1, h2, h3⟩ | h)
      · exact ⟨k, by omega, h2, h3⟩
      · split at h
        · rename_i hw
          exact ⟨n, by omega, by simpa using h, hw⟩
        · simp at h
    · rintro ⟨k, h1, h2, h3⟩
      by_cases hk : k = n
      · subst hk
        right
        rw [if_pos h3, h2]; simp
      · exact .inl ⟨k, by omega, h2, h3⟩
/-- A line's moves, told by its cells' numbers. -/
def alM (r : List UInt8) (C : List Int) : List (Int × Int) := (mvsOr (canM (str r)) (str r)).map (onC C)
def alP (R : List (List UInt8)) (Cs : Nat → List Int) (k : Nat) : List (Int × Int) := (List.range k).flatMap fun i => alM (R.getD i []) (Cs i)
theorem alP_next (R : List (List UInt8)) (Cs : Nat → List Int) (k : Nat) (h : k < R.length) : alP R Cs (k + 1) = alP R Cs k ++ alM R[k] (Cs k) := by
  unfold alP
  rw [List.range_succ, List.flatMap_append]
  simp [List.getD_eq_getElem?_getD, List.getElem?_eq_getElem h]
theorem alM_le (r : List UInt8) (C : List Int) : (alM r C).length ≤ 12 := by
  unfold alM
  rw [List.length_map]
  exact mvsOr_le _ _
theorem alP_le (R : List (List UInt8)) (Cs : Nat → List Int) : ∀ k, (alP R Cs k).length ≤ 12 * k
  | 0 => by simp [alP]
  | k + 1 => by
    have := alP_le R Cs k
    have h2 := alM_le (R.getD k []) (Cs k)
    unfold alP at this ⊢
    rw [List.range_succ, List.flatMap_append, List.length_append]
    simp only [List.flatMap_cons, List.flatMap_nil, List.append_nil]
    omega
/-- A row of moves of one's own, to be appended. -/
theorem mv_own {w : World} {base : Nat} {v : Value} {l : List (Int × Int)} (h : w.ownsRow base 39 2 v l.length (flat l)) : ∃ A cap, v = .slice A l.length cap ∧ (A = none → l.length = 0 ∧ cap = 0) ∧ (∀ ad, A = some ad → ∀ j u, (flat l)[j]? = some u → w.cell? (ad.add j) = some u) ∧ MvAt w A l := by
  rcases h.2 with ⟨hv, h0⟩ | ⟨g, cap, cur, rfl, hg, hh, hn, hm, hr⟩
  · have h2 : l.length = 0 := by have h3 := flat_len l; have h4 := h.1; omega
    exact ⟨none, 0, by rw [hv, h2], fun _ => ⟨h2, rfl⟩, fun ad e => (by cases e), fun k hk => by omega⟩
  · have ho : w.ownsRow base 39 2 (.slice (some ⟨g, 0, none⟩) l.length cap) l.length (flat l) := ⟨h.1, .inr ⟨g, cap, cur, rfl, hg, hh, hn, hm, hr⟩⟩
    obtain ⟨A, cap2, e1, hat⟩ := at_of_own ho
    injection e1 with e1 _ e2
    subst e1
    exact ⟨_, cap, rfl, fun e => (by cases e), fun ad e j u hu => (by injection e with e; subst e; exact ho.cells (g := g) rfl j u hu), hat⟩
theorem flat_one (l : List (Int × Int)) : ∀ u ∈ flat l, u.oneCell' = true := by
  intro u hu
  unfold flat at hu
  obtain ⟨p, _, hp⟩ := List.mem_flatMap.1 hu
  simp at hp
  rcases hp with rfl | rfl <;> rfl

set_option maxRecDepth 100000 in
set_option maxHeartbeats 2000000 in
theorem movesAlong_any (R : List (List UInt8)) (Cs : Nat → List Int) (gL gN cL cN n : Nat) (w : World) (hn : n = R.length) (h5 : n ≤ 5) (hr : ∀ r ∈ R, goodL (str r) = true) (hc : ∀ k (h : k < R.length), (Cs k).length = R[k].length) (hgL : gL < w.heap.size) (hgN : gN < w.heap.size) (hP : PtAt w gL R) (hN : NtAt w gN n Cs) :
    Calls Tryz.prog 45 #[.slice (some ⟨gL, 0, none⟩) n cL, .slice (some ⟨gN, 0, none⟩) n cN] w fun e w' => ∃ v, e = .returned v ∧ w'.ownsRow w.heap.size 39 2 v (alP R Cs n).length (flat (alP R Cs n)) ∧ Below w.heap.size w w' := by
  obtain ⟨i0, hi, hz0, hz1, hz2⟩ := info_parts Tryz.infoM
  have HI := Lib.hid hi
  have HZ0 := Lib.hid hz0
  have HZ1 := Lib.hid hz1
  have HZ2 := Lib.hid hz2
  clear hi hz0 hz1 hz2
  have HP := Lib.hid hP
  have HN := Lib.hid hN
  have HR := Lib.hid hr
  have HC := Lib.hid hc
  have HAP := Lib.hid (alP_next R Cs)
  have HLE := Lib.hid (alP_le R Cs)
  have HNL := Lib.hid hn
  have HA0 : Hid (alP R Cs 0 = []) := Lib.hid rfl
  clear hP hN hr hc hn
  generalize alP R Cs = AP at HAP HLE HA0 ⊢
  go_enter Tryz.func45, Tryz.ntmps45
  go_wp2
  go_loopw [5, 12] (fun v i wr => ∃ k : Nat, k ≤ n ∧ i = .int .i64 k ∧ wr.ownsRow w.heap.size 39 2 v (AP k).length (flat (AP k)) ∧ Below w.heap.size w wr) (fun _ i _ => n - (intOf i).toNat)
  case atStart => exact ⟨0, Nat.zero_le _, rfl, by rw [HA0.out]; exact World.ownsRow_nil _ _ _ _, Below.refl _ _⟩
  case round =>
    obtain ⟨k, hk, rfl, hown, hB⟩ := hrel
    by_cases hlt : k < n
    · have hlR : k < R.length := by rw [← HNL.out]; exact hlt
      obtain ⟨g, o, c, p1, p2, p3⟩ := (HP.out.below hgL hB) k hlR
      have HNr := Lib.hid (HN.out.below hgN hB)
      have hgood := HR.out _ (List.getElem_mem hlR)
      have h12 := good_len5 hgood
      have hcl := HC.out k hlR
      have HST := Lib.hid (HAP.out k hlR)
      have hle := HLE.out k
      have HLR := Lib.hid hcl
      have HMV := Lib.hid (fun wx => movesOf_any (str R[k]) wx (by rw [str_size]; unfold maxLen; omega))
      have HIN : Hid (∀ j (h : j < (mvsOr (canM (str R[k])) (str R[k])).length), ∃ a b : Nat, (mvsOr (canM (str R[k])) (str R[k]))[j] = ((a : Int), (b : Int)) ∧ a < (Cs k).length ∧ b < (Cs k).length) := Lib.hid fun j h => by
        have hm : (mvsOr (canM (str R[k])) (str R[k]))[j] ∈ mvsOr (canM (str R[k])) (str R[k]) := List.getElem_mem h
        generalize (mvsOr (canM (str R[k])) (str R[k]))[j] = m at hm ⊢
        have hm2 : m ∈ mvsTo (canM (str R[k])) (str R[k]) (str R[k]).size := by
          have e : mvsOr (canM (str R[k])) (str R[k]) = mvsTo (canM (str R[k])) (str R[k]) (str R[k]).size := by unfold mvsOr; rw [hgood]; rfl
          rw [e] at hm
          exact hm
        obtain ⟨f, t⟩ := m
        have hcan : canM (str R[k]) f t = true := by
          obtain ⟨q, _, h2, h3⟩ := (mem_mvsB _ _ _ _).1 hm2
          injection h2 with e1 e2
          subst e1
          subst e2
          exact h3
        obtain ⟨a, b, e1, e2, ha, hb, _⟩ := canM_in hcan
        rw [str_size] at ha hb
        exact ⟨a, b, by rw [← e1, ← e2], by omega, by omega⟩
      have hMle := mvsOr_le (canM (str R[k])) (str R[k])
      rw [hgood] at HMV
      have HAL : Hid (alM R[k] (Cs k) = (mvsOr (canM (str R[k])) (str R[k])).map (onC (Cs k))) := Lib.hid rfl
      generalize alM R[k] (Cs k) = al at HST HAL
      generalize mvsOr (canM (str R[k])) (str R[k]) = M at HMV HIN hMle HAL
      have hcv := run_convert_bytes_back (P := Tryz.prog) wr 42 9 5 ⟨g, o, none⟩ c R[k] Tryz.underlying42 Tryz.underlying5 Tryz.underlying9 (by
        intro j hj
        rw [addr_o]
        exact p3 j hj)
      have hx : (⟨R[k].toArray⟩ : ByteArray) = str R[k] := rfl
      have HB := Lib.hid hB
      have HO := Lib.hid hown
      have hzr := hB.size
      have i1 : (0 : Int) ≤ (k : Int) := by omega
      have i2 : (k : Int) < (n : Int) := by omega
      clear p3 hB hown hgood hcl
      generalize R[k] = r at p1 HMV hcv h12 HLR hx
      have hrl : r.length ≤ 1000 := by omega
      have hgNr : gN < wr.heap.size := by omega
      go_wp2_with fail
      refine (HMV.out _).mono ?_
      rintro e w2 ⟨v2, rfl, ho2, hb2⟩
      obtain ⟨A2, cap2, rfl, _, _, hat2⟩ := mv_own ho2
      obtain ⟨gc, oc, cc, q1, q2, q3⟩ := (HNr.out.below hgNr hb2) k hlt
      have HONC := Lib.hid (onCells_any (Cs k) M gc oc cc cap2 A2 w2 q3 hat2 HIN.out (by omega) q2)
      have HO2 := Lib.hid (own_below HO.out hb2)
      have HB2 := Lib.hid (HB.out.trans (hb2.mono hzr))
      have hclen : (Cs k).length ≤ 1000 := by have := HLR.out; omega
      clear q3 hat2 ho2 hb2 HNr HO HLR
      generalize (Cs k).length = nc at q1 HONC hclen
      go_wp2_with fail
      refine HONC.out.mono ?_
      rintro e w3 ⟨v3, rfl, ho3, hb3⟩
      have hal : al.length = M.length := by rw [HAL.out, List.length_map]
      rw [← HAL.out, ← hal] at ho3
      obtain ⟨A3, cap3, rfl, hnone3, hnews3, _⟩ := mv_own ho3
      have hown3 := own_below HO2.out hb3
      have HB3 := Lib.hid (HB2.out.trans (hb3.mono HB2.out.size))
      have hal12 : al.length ≤ 12 := by omega
      have H3 : (AP k).length + al.length ≤ maxLen := by unfold maxLen; omega
      have H4 : ((AP k).length + al.length) * 16 ≤ 140737488355328 := by omega
      have H5 : w.heap.size ≤ w3.heap.size := HB3.out.size
      have HFL := Lib.hid (flat_len al)
      clear ho3 hb3 hal HAL HONC
      go_wp2_with (first | (at_builtin; refine wpList_append_st w3 rfl _ _ 26 rfl w.heap.size 39 i0 (.agg #[.int .i64 0, .int .i64 0]) 2 16 Tryz.underlying26 HI.out HZ0.out HZ1.out HZ2.out rfl (by decide) _ _ _ rfl hown3 A3 al.length cap3 (flat al) rfl hnone3 HFL.out hnews3 (flat_one al) H3 H4 H5 ?_; intro v' w4 hown' hgrow))
      go_roundw
      case rel =>
        refine ⟨k + 1, by omega, by go_num, ?_, HB3.out.grown hgrow H5 fun j hj => (hown3.lt _ hj).1⟩
        rw [HST.out, List.length_append, flat_app]
        exact hown'
      case measure => simp [intOf]; omega
    · obtain rfl : k = n := by omega
      have HB := Lib.hid hB
      clear hB
      go_wp2
      go_ret
      exact ⟨_, rfl, hown, HB.out⟩
end Go.Proofs.YtoiaklnaecghnabGreatDoor
