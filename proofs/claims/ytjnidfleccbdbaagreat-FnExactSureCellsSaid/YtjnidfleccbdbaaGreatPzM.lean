/- Contract: all hidden lines, the program's. -/
import Derived.Test.YtjnidfleccbdbaaGreatPzL
namespace Go.Proofs.YtjnidfleccbdbaaGreat
open Go.RowKit Go.Maps Go.Sort

set_option maxHeartbeats 1000000 in
theorem sortRow_anyP (v : Value) (base : Nat) (ss : List (List UInt8)) (w : World) (hown : w.ownsRow base 9 1 v ss.length (txs ss)) (hbase : base ≤ w.heap.size) (hl : ss.length ≤ 1000) :
    Calls Tryz.prog 33 #[v] w fun e w' => e = .returned (.tuple #[]) ∧ w'.ownsRow base 9 1 v ss.length (txs (ss.mergeSort fun x y => decide (x ≤ y))) ∧ Below base w w' := by
  rcases hown with ⟨hlen, ⟨hv, h0⟩ | ⟨g, cap, cur, rfl, hg0, hg, hle, hm, hs, ht⟩⟩
  · have h2 : ss.length = 0 := by have h3 := txs_len ss; omega
    obtain rfl := List.eq_nil_of_length_eq_zero h2
    subst hv
    refine (AnyM.slices_Sort_string_none Tryz.sort33 none 0 w).mono ?_
    rintro e w' ⟨rfl, rfl⟩
    exact ⟨rfl, ⟨by simp [txs], .inl ⟨rfl, rfl⟩⟩, Below.refl _ _⟩
  · rw [Nat.mul_one] at ht
    refine (AnyM.slices_Sort_string Tryz.sort33 g 0 cap ss w (holds_of_block hg ht) (lt_of_block hg) (by omega)).mono ?_
    rintro e w' ⟨rfl, n, os, rfl⟩
    refine ⟨rfl, ownsRow_sorted (by rw [List.length_mergeSort]) hg0 hg hle hm hs, (Below.refl base w).grown (grownBy_sorted _) hbase fun i hi => ?_⟩
    injection hi with hi
    omega
theorem txs_news {w : World} {base : Nat} {A : Option Addr} {cap : Nat} {l : List (List UInt8)} (h : w.ownsRow base 9 1 (.slice A l.length cap) l.length (txs l)) : ∀ ad, A = some ad → ∀ j u, (txs l)[j]? = some u → w.cell? (ad.add j) = some u := by
  intro ad e j u hj
  have h' := h
  rcases h.2 with ⟨hv, _⟩ | ⟨g, cap', cur, hv, hb, hh, hn, _⟩
  · subst e
    injection hv with hv
    cases hv
  · injection hv with e1 _ e2
    rw [e] at e1
    injection e1 with e1
    subst e1
    subst e; subst e2
    have hlt : j < l.length := by
      rw [← txs_len]
      exact (List.getElem?_eq_some_iff.1 hj).1
    rw [addr_add]
    exact (h'.cellAt j (by omega)).trans hj
theorem hidLs_le (n : Nat) : ∀ k m, k ≤ m → (hidLs n k).length ≤ (hidLs n m).length := by
  intro k m h
  obtain ⟨d, rfl⟩ : ∃ d, m = k + d := ⟨m - k, by omega⟩
  induction d with
  | zero => exact Nat.le_refl _
  | succ d ih => rw [← Nat.add_assoc, hidLs_next, List.length_append]; have := ih (by omega); omega
theorem hidT_le (n t : Nat) : ∀ k m, k ≤ m → (hidT n t k).length ≤ (hidT n t m).length := by
  intro k m h
  obtain ⟨d, rfl⟩ : ∃ d, m = k + d := ⟨m - k, by omega⟩
  induction d with
  | zero => exact Nat.le_refl _
  | succ d ih => rw [← Nat.add_assoc, hidT_next, List.length_append]; have := ih (by omega); omega
theorem hid_few {n t f : Nat} (h5 : n ≤ 5) (h1 : 1 ≤ n) (ht : t ≤ n) (hf : f ≤ n - t + 1) : (hidLs n t).length + (hidT n t f).length ≤ 243 := by
  have a := hidT_le n t f _ hf
  have b := hidLs_le n (t + 1) (n + 1) (by omega)
  rw [hidLs_next, List.length_append, hid_len (by omega) h1] at b
  have c : 3 ^ n ≤ 3 ^ 5 := Nat.pow_le_pow_right (by decide) h5
  have d : 3 ^ 5 = 243 := by decide
  omega

set_option maxRecDepth 100000 in
set_option maxHeartbeats 2000000 in
theorem hiddenLines_any (n : Nat) (w : World) (h15 : 1 ≤ n ∧ n ≤ 5) :
    Calls Tryz.prog 25 #[.int .i64 n] w (TxsP w (grow n [])) := by
  obtain ⟨i0, hi, hz0, hz1, hz2⟩ := info_parts Tryz.infoS
  have HI := Lib.hid hi
  have HZ0 := Lib.hid hz0
  have HZ1 := Lib.hid hz1
  have HZ2 := Lib.hid hz2
  clear hi hz0 hz1 hz2
  have HG : Hid ((hidLs n (n + 1)).mergeSort (fun x y => decide (x ≤ y)) = grow n []) := Lib.hid (hid_sorted (by omega) h15.1)
  have HGL : Hid ((grow n []).length = (hidLs n (n + 1)).length) := Lib.hid (by rw [← HG.out, List.length_mergeSort])
  have HFEW := Lib.hid (fun t f (ht : t ≤ n) (hf : f ≤ n - t + 1) => hid_few (n := n) (t := t) (f := f) h15.2 h15.1 ht hf)
  have HA := Lib.hid (fun (t f : Nat) (h : t + f ≤ n) wx => allLinesG_any (t : Int) ((n : Int) - t - f) (f : Int) wx (by rw [three_iff]; omega) (by
    have hc : three (t : Int) ((n : Int) - t - f) (f : Int) = true := by rw [three_iff]; omega
    have hm := manyK_eq hc
    have hl := hid_few (n := n) (t := t) (f := f + 1) h15.2 h15.1 (by omega) (by omega)
    rw [hidT_next, List.length_append] at hl
    have : (hidF n t f).length = manyK (t : Int) ((n : Int) - t - f) (f : Int) := lns_len _ _ _ _
    rw [hm]
    omega))
  generalize grow n [] = G at *
  have u1 : IntKind.i64.wrap ((n : Int) + 1) = (n : Int) + 1 := by rw [IntKind.wrap_i64]; omega
  go_enter Tryz.func25, Tryz.ntmps25
  go_wp2_with fail
  go_loopw [3, 4, 8] (fun v _ i wr => ∃ t : Nat, t ≤ n + 1 ∧ i = .int .i64 t ∧ wr.ownsRow w.heap.size 9 1 v (hidLs n t).length (txs (hidLs n t)) ∧ Below w.heap.size w wr) (fun _ _ i _ => n + 1 - (intOf i).toNat)
  case atStart => exact ⟨0, by omega, rfl, World.ownsRow_nil _ _ _ _, Below.refl _ _⟩
  case round =>
    obtain ⟨t, ht, rfl, hown, hB⟩ := hrel
    by_cases hlt : t < n + 1
    · have hltI : (t : Int) < (n : Int) + 1 := by omega
      have u2 : IntKind.i64.wrap ((n : Int) - t) = (n : Int) - t := by rw [IntKind.wrap_i64]; omega
      have u3 : IntKind.i64.wrap ((n : Int) - t + 1) = (n : Int) - t + 1 := by rw [IntKind.wrap_i64]; omega
      have HO := Lib.hid hown
      have HB := Lib.hid hB
      have HNT : Hid (hidLs n (t + 1) = hidLs n t ++ hidT n t (n - t + 1)) := Lib.hid (hidLs_next n t)
      have hlen0 : (hidLs n t).length ≤ 243 := by have := HFEW.out t 0 (by omega) (by omega); omega
      have HF2 := Lib.hid (fun f (hf : f ≤ n - t + 1) => HFEW.out t f (by omega) hf)
      generalize hidLs n t = H at *
      clear hown hB
      obtain ⟨wo, hwo⟩ : ∃ wo : World, wo = wr := ⟨_, rfl⟩
      subst hwo
      go_wp2_with fail
      go_loopw [3, 5, 15] (fun v _ i wr => ∃ f : Nat, f ≤ n - t + 1 ∧ i = .int .i64 f ∧ wr.ownsRow w.heap.size 9 1 v (H ++ hidT n t f).length (txs (H ++ hidT n t f)) ∧ Below w.heap.size w wr) (fun _ _ i _ => n - t + 1 - (intOf i).toNat)
      case atStart => exact ⟨0, by omega, rfl, by simpa [hidT] using HO.out, HB.out⟩
      case round =>
        obtain ⟨f, hf, rfl, hown, hB⟩ := hrel
        by_cases hltf : f < n - t + 1
        · have hltfI : (f : Int) < (n : Int) - t + 1 := by omega
          have u4 : IntKind.i64.wrap ((n : Int) - t - f) = (n : Int) - t - f := by rw [IntKind.wrap_i64]; omega
          have HNX : Hid (H ++ hidT n t (f + 1) = (H ++ hidT n t f) ++ hidF n t f) := Lib.hid (by rw [hidT_next, List.append_assoc])
          have hln : Hid ((hidF n t f).length = manyK (t : Int) ((n : Int) - t - f) (f : Int)) := Lib.hid (lns_len _ _ _ _)
          have hsum : (H ++ hidT n t f).length + (hidF n t f).length ≤ 243 := by
            have := HF2.out (f + 1) (by omega)
            rw [hidT_next, List.length_append] at this
            rw [List.length_append]
            omega
          have HC := Lib.hid (fun wx => HA.out t f (by omega) wx)
          unfold LnPost at HC
          rw [← hln.out] at HC
          have HCF : Hid (lnsTo (t : Int) ((n : Int) - t - f) (f : Int) (hidF n t f).length = hidF n t f) := Lib.hid (by rw [hln.out]; rfl)
          rw [HCF.out] at HC
          clear hln HCF
          generalize hidF n t f = F at *
          generalize H ++ hidT n t f = K at *
          go_wp2_with fail
          refine (HC.out _).mono ?_
          rintro e w2 ⟨v2, rfl, o2, hb2⟩
          obtain ⟨A2, cap2, rfl, _, _, _, hnone, _⟩ := st_own o2
          have hnews := txs_news o2
          have hown2 := own_below hown hb2
          have hB2 := hB.trans (hb2.mono hB.size)
          have hz2 := hB2.size
          have HHN := Lib.hid (And.intro hnews hnone)
          have HHO := Lib.hid (And.intro hown2 hB2)
          clear hown hB o2 hb2 hnews hnone hown2 hB2
          go_wp2_with (first | (at_builtin; refine wpList_append_st w2 rfl _ _ 36 rfl w.heap.size 9 i0 (.string ByteArray.empty) 1 16 Tryz.underlying36 HI.out HZ0.out HZ1.out HZ2.out rfl (by decide) _ K.length (txs K) rfl HHO.out.1 A2 F.length cap2 (txs F) rfl (fun e => ⟨by rw [(HHN.out.2 e).1]; rfl, (HHN.out.2 e).2⟩) (by rw [txs_len, Nat.mul_one]) HHN.out.1 (txs_one _) (by unfold maxLen; omega) (by omega) hz2 ?_; intro v' w4 hown' hgrow))
          go_roundw
          case rel =>
            refine ⟨f + 1, by omega, by go_num, ?_, HHO.out.2.grown hgrow hz2 fun j hj => (HHO.out.1.lt _ hj).1⟩
            rw [HNX.out, txs_app, List.length_append]
            exact hown'
          case measure => simp [intOf]; omega
        · obtain rfl : f = n - t + 1 := by omega
          have hltfI : ¬ (((n - t + 1 : Nat) : Int) < (n : Int) - t + 1) := by omega
          have hg : decide (((n - t + 1 : Nat) : Int) < (n : Int) - t + 1) = false := decide_eq_false hltfI
          have HR := Lib.hid (And.intro hown hB)
          rw [← HNT.out] at HR
          clear hown hB hg
          go_wp2_with fail
          go_roundw
          case rel => exact ⟨t + 1, by omega, by go_num, HR.out.1, HR.out.2⟩
          case measure => simp [intOf]; omega
    · obtain rfl : t = n + 1 := by omega
      have HO := Lib.hid hown
      have hlen0 : (hidLs n (n + 1)).length ≤ 243 := by
        have := HFEW.out n (n - n + 1) (by omega) (Nat.le_refl _)
        rw [hidLs_next, List.length_append]
        exact this
      have HSO := Lib.hid (fun v wx (h : wx.ownsRow w.heap.size 9 1 v (hidLs n (n + 1)).length (txs (hidLs n (n + 1)))) (hb : w.heap.size ≤ wx.heap.size) => sortRow_anyP v w.heap.size (hidLs n (n + 1)) wx h hb (by omega))
      rw [HG.out, ← HGL.out] at HSO
      rw [← HGL.out] at HO
      clear hown hlen0 HG HGL HFEW HA
      have hz := hB.size
      have HB := Lib.hid hB
      clear hB
      go_wp2_with fail
      refine (HSO.out _ _ HO.out hz).mono ?_
      rintro e w2 ⟨rfl, o2, hb2⟩
      have HO2 := Lib.hid (And.intro o2 (HB.out.trans hb2))
      clear o2 hb2
      go_wp2_with fail
      go_ret
      exact ⟨_, rfl, HO2.out.1, HO2.out.2⟩
end Go.Proofs.YtjnidfleccbdbaaGreat
