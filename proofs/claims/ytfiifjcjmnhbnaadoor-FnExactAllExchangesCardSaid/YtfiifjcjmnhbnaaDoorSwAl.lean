/- Rows of rows of moves marked and held, the laws' walks. -/
import Derived.Test.YtfiifjcjmnhbnaaDoorSwAg
namespace Go.Proofs.YtfiifjcjmnhbnaaDoor
open Go.RowKit

/-- The mark that a row begins with. -/
def kAt (k0 : Nat) (PS : List (List (Int × Int))) (i : Nat) : Nat := k0 + 2 * ((PS.take i).map List.length).sum
theorem kAt_zero (k0 : Nat) (PS : List (List (Int × Int))) : kAt k0 PS 0 = k0 := by simp [kAt]
theorem kAt_next (k0 : Nat) (PS : List (List (Int × Int))) (i : Nat) (h : i < PS.length) : kAt k0 PS (i + 1) = kAt k0 PS i + 2 * PS[i].length := by
  unfold kAt
  rw [List.take_succ_eq_append_getElem h, List.map_append, List.sum_append]
  simp
  omega
theorem kAt_le (k0 : Nat) (PS : List (List (Int × Int))) (b : Nat) (hb : ∀ p ∈ PS, p.length ≤ b) : ∀ i, i ≤ PS.length → kAt k0 PS i ≤ k0 + 2 * b * i
  | 0, _ => by rw [kAt_zero]; omega
  | i + 1, h => by
    have ih := kAt_le k0 PS b hb i (by omega)
    rw [kAt_next k0 PS i (by omega)]
    have := hb PS[i] (List.getElem_mem _)
    have e : 2 * b * (i + 1) = 2 * b * i + 2 * b := by rw [Nat.mul_add, Nat.mul_one]
    omega
/-- The rows, the first i of them marked. -/
def mkS (k0 : Nat) (PS : List (List (Int × Int))) (i : Nat) : List (List (Int × Int)) :=
  (List.range PS.length).map fun j => if j < i then marks (kAt k0 PS j) (PS.getD j []).length else PS.getD j []
theorem mkS_len (k0 : Nat) (PS : List (List (Int × Int))) (i : Nat) : (mkS k0 PS i).length = PS.length := by simp [mkS]
theorem mkS_at (k0 : Nat) (PS : List (List (Int × Int))) (i j : Nat) (h : j < PS.length) : (mkS k0 PS i)[j]? = some (if j < i then marks (kAt k0 PS j) PS[j].length else PS[j]) := by
  unfold mkS
  rw [List.getElem?_map, List.getElem?_range h]
  simp [List.getD_eq_getElem?_getD, List.getElem?_eq_getElem h]
theorem mkS_zero (k0 : Nat) (PS : List (List (Int × Int))) : mkS k0 PS 0 = PS := by
  refine List.ext_getElem? fun j => ?_
  rcases Nat.lt_or_ge j PS.length with h | h
  · rw [mkS_at k0 PS 0 j h, if_neg (by omega), List.getElem?_eq_getElem h]
  · rw [List.getElem?_eq_none (by rw [mkS_len]; exact h), List.getElem?_eq_none h]
section
variable {W W' : World} {base : Nat} {vp : Value} {vs : List Value} {PS : List (List (Int × Int))} {k0 i : Nat}
/-- One row more is marked. -/
theorem PlW.mark (h : PlW W base vp vs (mkS k0 PS i)) (hi : i < PS.length) {v : Value} (hv : vs[i]? = some v) (hm : W'.ownsRow base 55 2 v PS[i].length (flat (marks (kAt k0 PS i) PS[i].length))) (hf : FarB v.ownBlock W W') : PlW W' base vp vs (mkS k0 PS (i + 1)) := by
  have hl := h.len
  rw [mkS_len] at hl
  have hin := h.inn i v PS[i] hv (by rw [mkS_at k0 PS i i hi, if_neg (by omega)])
  have hblk : ∀ g, g < W.heap.size → v.ownBlock ≠ some g → W'.heap[g]? = W.heap[g]? := fun g hg hne => hf.2 g (fun e => hne e.symm) hg
  refine ⟨own_blkS h.out fun g hg => hblk g (h.out.lt g hg).2 (fun e => rows_apartS hin h.out T_mm g e hg), by rw [mkS_len]; exact hl, fun j u p hu hp => ?_, h.apart⟩
  have hj : j < PS.length := by rw [← hl]; exact (List.getElem?_eq_some_iff.1 hu).1
  rw [mkS_at k0 PS (i + 1) j hj] at hp
  injection hp with hp
  by_cases e : j = i
  · subst e
    rw [hv] at hu
    injection hu with hu
    rw [if_pos (by omega)] at hp
    rw [← hu, ← hp, marks_len]
    exact hm
  · have hp2 : (mkS k0 PS i)[j]? = some p := by
      rw [mkS_at k0 PS i j hj, ← hp]
      congr 1
      by_cases e2 : j < i
      · rw [if_pos e2, if_pos (by omega)]
      · rw [if_neg e2, if_neg (by omega)]
    have hu2 := h.inn j u p hu hp2
    exact own_blkS hu2 fun g hg => hblk g (hu2.lt g hg).2 (fun e3 => h.apart i j v u g hv hu (fun e4 => e e4.symm) e3 hg)
end
theorem own_formL {w : World} {b : Nat} {e : TypeId} {m n : Nat} {v : Value} {xs : List Value} (h : w.ownsRow b e m v n xs) : ∃ A cap, v = .slice A n cap := by
  rcases h.2 with ⟨h1, h2⟩ | ⟨g, cap, _, h1, _⟩
  · exact ⟨none, 0, by rw [h1, h2]⟩
  · exact ⟨_, cap, h1⟩
/-- A row's place and what is read there. -/
theorem PlW.read {W : World} {base n cap : Nat} {A : Option Addr} {vs : List Value} {Q : List (List (Int × Int))} (h : PlW W base (.slice A n cap) vs Q) (hn : vs.length = n) {j : Nat} (hj : j < n) {p : List (Int × Int)} (hp : Q[j]? = some p) :
    ∃ g v, A = some ⟨g, 0, none⟩ ∧ vs[j]? = some v ∧ W.cell? ⟨g, j, none⟩ = some v ∧ W.ownsRow base 55 2 v p.length (flat p) := by
  have hv : vs[j]? = some vs[j] := List.getElem?_eq_getElem (by omega)
  rcases h.out.2 with ⟨hv0, h0⟩ | ⟨g, cap', cur, hv0, _⟩
  · omega
  · injection hv0 with hA _ _
    subst hA
    have ho := h.out
    rw [hn] at ho
    exact ⟨g, vs[j], rfl, hv, (ho.cellAt j (by omega)).trans hv, h.inn j _ p hv hp⟩
set_option maxRecDepth 100000 in
set_option maxHeartbeats 2000000 in
theorem markMoveSS_any (PS : List (List (Int × Int))) (k0 base cap : Nat) (A : Option Addr) (vs : List Value) (w : World) (h : PlW w base (.slice A PS.length cap) vs PS) (hn : PS.length ≤ 500) (he : ∀ p ∈ PS, p.length ≤ 50000) (hk0 : k0 ≤ 1000) :
    Calls Tryd.prog 7 #[.slice A PS.length cap, .int .i64 k0] w fun e w' => e = .returned (.int .i64 (kAt k0 PS PS.length : Nat)) ∧ PlW w' base (.slice A PS.length cap) vs (mkS k0 PS PS.length) ∧ Below base w w' := by
  have HL : Hid (vs.length = PS.length) := Lib.hid h.len
  have HP0 : Hid (PlW w base (.slice A PS.length cap) vs (mkS k0 PS 0)) := Lib.hid (by rw [mkS_zero]; exact h)
  have HKL : Hid (∀ j, j ≤ PS.length → kAt k0 PS j ≤ 60000000) := Lib.hid fun j hj => by
    have h1 := kAt_le k0 PS 50000 he j hj
    omega
  have HKN := Lib.hid (kAt_next k0 PS)
  have HK0 : Hid (kAt k0 PS 0 = k0) := Lib.hid (kAt_zero k0 PS)
  have HE := Lib.hid he
  clear h he
  go_enter Tryd.func7, Tryd.ntmps7
  go_wp2
  go_loopw [1, 5] (fun x i wr => ∃ (j K : Nat), j ≤ PS.length ∧ i = .int .i64 j ∧ x = .int .i64 K ∧ Hid (K = kAt k0 PS j) ∧ Hid (PlW wr base (.slice A PS.length cap) vs (mkS k0 PS j)) ∧ Hid (Below base w wr)) (fun _ i _ => PS.length - (intOf i).toNat)
  case atStart => exact ⟨0, k0, Nat.zero_le _, rfl, rfl, Lib.hid HK0.out.symm, HP0, Lib.hid (Below.refl _ _)⟩
  case round =>
    obtain ⟨j, K, hj, rfl, rfl, HK, HP, HB⟩ := hrel
    clear HP0
    by_cases hlt : j < PS.length
    · obtain ⟨g, v, rfl, hv, hc, hin⟩ := HP.out.read HL.out hlt (p := PS[j]) (by rw [mkS_at k0 PS j j hlt, if_neg (by omega)])
      have hle := HE.out PS[j] (List.getElem_mem hlt)
      have hKle := HKL.out j hj
      rw [← HK.out] at hKle
      have HM := Lib.hid (markMoveS_wide PS[j].length K base PS[j] v wr rfl hin (by omega) (by omega))
      have HKX : Hid (K + 2 * PS[j].length = kAt k0 PS (j + 1)) := Lib.hid (by rw [HKN.out j hlt, ← HK.out])
      have HMK : Hid (∀ W', W'.ownsRow base 55 2 v PS[j].length (flat (marks K PS[j].length)) → FarB v.ownBlock wr W' → PlW W' base (.slice (some ⟨g, 0, none⟩) PS.length cap) vs (mkS k0 PS (j + 1))) := Lib.hid fun W' h1 h2 => HP.out.mark hlt hv (by rw [← HK.out]; exact h1) h2
      obtain ⟨Bv, cv, rfl⟩ := own_formL hin
      generalize PS[j].length = q at *
      have i1 : (0 : Int) ≤ (j : Int) := by omega
      have i2 : (j : Int) < (PS.length : Int) := by omega
      clear hin hv
      go_wp2_with fail
      refine HM.out.mono ?_
      rintro e w2 ⟨rfl, h1, h2, h3⟩
      have HP2 := Lib.hid (HMK.out w2 h1 h3)
      have HB2 := Lib.hid (HB.out.trans h2)
      clear h1 h2 h3
      go_wp2_with fail
      go_roundw
      case rel => exact ⟨j + 1, K + 2 * q, by omega, by go_num, by push_cast; rfl, HKX, HP2, HB2⟩
      case measure => simp [intOf]; omega
    · obtain rfl : j = PS.length := by omega
      go_wp2_with fail
      go_ret
      exact ⟨by rw [HK.out]; rfl, HP.out, HB.out⟩
set_option maxRecDepth 100000 in
set_option maxHeartbeats 2000000 in
theorem heldMoveSS_any (PS : List (List (Int × Int))) (k0 base cap : Nat) (A : Option Addr) (vs : List Value) (w : World) (h : PlW w base (.slice A PS.length cap) vs (mkS k0 PS PS.length)) (hn : PS.length ≤ 500) (he : ∀ p ∈ PS, p.length ≤ 50000) (hk0 : k0 ≤ 1000) :
    Calls Tryd.prog 8 #[.slice A PS.length cap, .int .i64 k0] w fun e w' => e = .returned (.int .i64 (kAt k0 PS PS.length : Nat)) ∧ w = w' := by
  have HL : Hid (vs.length = PS.length) := Lib.hid (by have := h.len; rwa [mkS_len] at this)
  have HP := Lib.hid h
  have HKL : Hid (∀ j, j ≤ PS.length → kAt k0 PS j ≤ 60000000) := Lib.hid fun j hj => by
    have h1 := kAt_le k0 PS 50000 he j hj
    omega
  have HKN := Lib.hid (kAt_next k0 PS)
  have HK0 : Hid (kAt k0 PS 0 = k0) := Lib.hid (kAt_zero k0 PS)
  have HE := Lib.hid he
  clear h he
  go_enter Tryd.func8, Tryd.ntmps8
  go_wp2
  go_loop [1, 5] (fun x i => ∃ (j K : Nat), j ≤ PS.length ∧ i = .int .i64 j ∧ x = .int .i64 K ∧ Hid (K = kAt k0 PS j)) (fun _ i => PS.length - (intOf i).toNat)
  case atStart => exact ⟨0, k0, Nat.zero_le _, rfl, rfl, Lib.hid HK0.out.symm⟩
  case round =>
    obtain ⟨j, K, hj, rfl, rfl, HK⟩ := hrel
    by_cases hlt : j < PS.length
    · obtain ⟨g, v, rfl, hv, hc, hin⟩ := HP.out.read HL.out hlt (p := marks (kAt k0 PS j) PS[j].length) (by rw [mkS_at k0 PS PS.length j hlt, if_pos hlt])
      have hle := HE.out PS[j] (List.getElem_mem hlt)
      have hKle := HKL.out j hj
      rw [← HK.out] at hKle hin
      rw [marks_len] at hin
      have HM := Lib.hid (heldMoveS_wide PS[j].length K base v w hin (by omega) (by omega))
      have HKX : Hid (K + 2 * PS[j].length = kAt k0 PS (j + 1)) := Lib.hid (by rw [HKN.out j hlt, ← HK.out])
      obtain ⟨Bv, cv, rfl⟩ := own_formL hin
      generalize PS[j].length = q at *
      have i1 : (0 : Int) ≤ (j : Int) := by omega
      have i2 : (j : Int) < (PS.length : Int) := by omega
      obtain ⟨K2, hK2⟩ : ∃ K2 : Int, K2 = (K : Int) + 2 * (q : Int) := ⟨_, rfl⟩
      have hK3 : ¬ K2 < 0 := by omega
      rw [← hK2] at HM
      have HK2 : Hid (K2 = (K : Int) + 2 * (q : Int)) := Lib.hid hK2
      clear hin hv hK2
      go_wp2_with fail
      refine HM.out.mono ?_
      rintro e w2 ⟨rfl, rfl⟩
      go_wp2_with fail
      go_round
      case rel => exact ⟨j + 1, K + 2 * q, by omega, by go_num, by rw [HK2.out]; push_cast; rfl, HKX⟩
      case measure => simp [intOf]; omega
    · obtain rfl : j = PS.length := by omega
      go_wp2_with fail
      go_ret
      exact ⟨by rw [HK.out]; rfl, rfl⟩
end Go.Proofs.YtfiifjcjmnhbnaaDoor
