/- Contract: how far each ring is from one, the model's. -/
import Derived.Test.YtdcbjbmnkajjcaaDoorCiH
import Derived.Test.YtdcbjbmnkajjcaaDoorCiF
import Derived.Test.YtdcbjbmnkajjcaaDoorCiE
import Derived.Deep.RegionLaw
import Derived.Deep.AppendLies
import Derived.Deep.Cut
namespace Go.Proofs.YtdcbjbmnkajjcaaDoor
open Go.RowKit

def itN (I : List Nat) : List Value := I.map fun (n : Nat) => .int .i64 (n : Int)
def itZ (F : List Int) : List Value := F.map fun n => .int .i64 n
/-- A list of whole numbers lies there. -/
def ItAt (W : World) (v : Value) (I : List Nat) : Prop := ∃ A cap, v = .slice A I.length cap ∧ ∀ j, (hj : j < I.length) → ∃ g, A = some ⟨g, 0, none⟩ ∧ g < W.heap.size ∧ W.cell? ⟨g, j, none⟩ = some (.int .i64 (I[j] : Nat))
/-- The graph in memory. -/
structure GrM (W : World) (B : Nat) (R : List ByteArray) (NX : List (List Nat)) : Prop where
  lt : B < W.heap.size
  rings : ∃ A cap, W.cell? ⟨B, 0, none⟩ = some (.slice A R.length cap) ∧ ∀ k, (hk : k < R.length) → ∃ g, A = some ⟨g, 0, none⟩ ∧ g < W.heap.size ∧ W.cell? ⟨g, k, none⟩ = some (.string R[k])
  next : ∃ A cap, W.cell? ⟨B, 1, none⟩ = some (.slice A NX.length cap) ∧ ∀ k, (hk : k < NX.length) → ∃ g v, A = some ⟨g, 0, none⟩ ∧ g < W.heap.size ∧ W.cell? ⟨g, k, none⟩ = some v ∧ ItAt W v NX[k]
theorem ItAt.below {W W' : World} {v : Value} {I : List Nat} (h : ItAt W v I) (hb : Below W.heap.size W W') : ItAt W' v I := by
  obtain ⟨A, cap, h1, h2⟩ := h
  refine ⟨A, cap, h1, fun j hj => ?_⟩
  obtain ⟨g, a, b, c⟩ := h2 j hj
  exact ⟨g, a, Nat.lt_of_lt_of_le b hb.size, (hb.cell (p := ⟨g, j, none⟩) b).trans c⟩
theorem GrM.below {W W' : World} {B : Nat} {R : List ByteArray} {NX : List (List Nat)} (h : GrM W B R NX) (hb : Below W.heap.size W W') : GrM W' B R NX := by
  obtain ⟨h0, ⟨A, cap, h1, h2⟩, ⟨A', cap', h3, h4⟩⟩ := h
  refine ⟨Nat.lt_of_lt_of_le h0 hb.size, ⟨A, cap, (hb.cell (p := ⟨B, 0, none⟩) h0).trans h1, fun k hk => ?_⟩, ⟨A', cap', (hb.cell (p := ⟨B, 1, none⟩) h0).trans h3, fun k hk => ?_⟩⟩
  · obtain ⟨g, a, b, c⟩ := h2 k hk
    exact ⟨g, a, Nat.lt_of_lt_of_le b hb.size, (hb.cell (p := ⟨g, k, none⟩) b).trans c⟩
  · obtain ⟨g, v, a, b, c, d⟩ := h4 k hk
    exact ⟨g, v, a, Nat.lt_of_lt_of_le b hb.size, (hb.cell (p := ⟨g, k, none⟩) b).trans c, d.below hb⟩
/-- The distances, in a list of the call's own. -/
def ToPost (NX : List (List Nat)) (v : Nat) (w : World) (e : Ending) (w' : World) : Prop :=
  ∃ x F, e = .returned x ∧ w'.ownsRow w.heap.size 3 1 x NX.length (itZ F) ∧ F.length = NX.length ∧ (∀ i, (hi : i < F.length) → farF NX v F[i] i) ∧ Below w.heap.size w w'
theorem Tryd.infoIt : (Tryd.prog.info? 3).map (fun i => (i.zero, i.size, i.bytes)) = some (some (.int .i64 0), 1, 8) := by kernel_rfl
theorem itZ_len (F : List Int) : (itZ F).length = F.length := by simp [itZ]
theorem itZ_at (F : List Int) (k : Nat) (h : k < F.length) : (itZ F)[k]? = some (.int .i64 (F.getD k 0)) := by simp [itZ, h]
theorem itZ_set (F : List Int) (k : Nat) (x : Int) : (itZ F).set k (.int .i64 x) = itZ (F.set k x) := by simp [itZ, List.map_set]
theorem getD_set (F : List Int) (k a : Nat) (x : Int) (h : k < F.length) : (F.set k x).getD a 0 = if a = k then x else F.getD a 0 := by
  rw [List.getD_eq_getElem?_getD, List.getElem?_set]
  by_cases e : k = a
  · rw [if_pos e, if_pos h, if_pos e.symm]; rfl
  · rw [if_neg e, if_neg (fun h => e h.symm), List.getD_eq_getElem?_getD]
abbrev FrO (W : World) (g n : Nat) (F : List Int) : Prop := W.ownsRow g 3 1 (.slice (some ⟨g, 0, none⟩) n n) n (itZ F)
theorem FrO.cell {W : World} {g n : Nat} {F : List Int} (h : FrO W g n F) (hF : F.length = n) (k : Nat) (hk : k < n) : W.cell? ⟨g, k, none⟩ = some (.int .i64 (F.getD k 0)) ∧ W.frozen? ⟨g, k, none⟩ = false :=
  ⟨(h.cellAt k (by omega)).trans (itZ_at F k (by omega)), h.frozenAt k⟩
theorem FrO.set {W : World} {g n : Nat} {F : List Int} (h : FrO W g n F) (k : Nat) (x : Int) : FrO (W.setCell ⟨g, k, none⟩ (.int .i64 x)) g n (F.set k x) := by
  have := (h.stored k (.int .i64 x)).1
  rwa [itZ_set] at this

set_option maxRecDepth 100000 in
set_option maxHeartbeats 4000000 in
theorem to_any (B : Nat) (R : List ByteArray) (NX : List (List Nat)) (v : Nat) (w : World) (hG : GrM w B R NX) (hlen : NX.length = R.length) (hin : ∀ i k, k ∈ NX.getD i [] → k < NX.length) (hv : v < NX.length) (hn : NX.length ≤ 100000) (hrw : ∀ a, (NX.getD a []).length ≤ 1000) :
    Calls Tryd.prog 37 #[.pointer (some ⟨B, 0, none⟩), .int .i64 v] w (ToPost NX v w) := by
  obtain ⟨i0, hi, hz0, hz1, hz2⟩ := info_parts Tryd.infoIt
  have HI := Lib.hid hi
  have HZ0 := Lib.hid hz0
  have HZ1 := Lib.hid hz1
  have HG := Lib.hid hG
  have HIN := Lib.hid hin
  obtain ⟨hlt, ⟨A, cap, c0, _⟩, ⟨A', cap', c1, hne⟩⟩ := hG
  have HNE := Lib.hid hne
  have HRW := Lib.hid hrw
  clear hrw
  have hltB := hlt
  rw [← hlen] at c0
  have b2 : i0.bytes * NX.length ≤ 281474976710656 := by rw [hz2]; omega
  have b3 : NX.length ≤ maxLen := by unfold maxLen; omega
  have HC1 := Lib.hid c1
  clear hi hz0 hz1 hz2 hin c1 hne
  obtain ⟨n, hnn⟩ : ∃ n, n = NX.length := ⟨_, rfl⟩
  have HNN := Lib.hid hnn
  rw [← hnn] at c0 b2 b3 hv hn
  have HNX : Hid (Value.slice A' NX.length cap' = .slice A' n cap') := Lib.hid (by rw [hnn])
  clear hlen hnn
  go_enter Tryd.func37, Tryd.ntmps37
  go_wp2_with (first | (at_make; refine wpList_make_full _ rfl _ _ 54 rfl w.heap.size 3 i0 (.int .i64 0) 1 Tryd.underlying54 HI.out HZ0.out HZ1.out .i64 .i64 _ _ n rfl rfl rfl rfl b2 b3 (Nat.le_refl _) ?_; intro w1 ho1 hg1))
  have e0 : (madeCells (Value.int .i64 0).cells (n * 1)).toList = itZ (List.replicate n 0) := by
    rw [Nat.mul_one, made_one (.int .i64 0) rfl n]; simp [itZ]
  rw [e0] at ho1
  have HO1 : Hid (FrO w1 w.heap.size n (List.replicate n 0)) := Lib.hid ho1
  have HB1 := Lib.hid ((Below.refl w.heap.size w).grown hg1 (Nat.le_refl _) (by simp))
  clear ho1 hg1 e0 b2 b3 c0
  go_wp2
  go_loopw [21] (fun t wr => ∃ (k : Nat) (F : List Int), k ≤ n ∧ t = .int .i64 k ∧ F.length = n ∧ Hid (∀ j, j < k → F.getD j 0 = -1) ∧ Hid (FrO wr w.heap.size n F) ∧ Below w.heap.size w wr) (fun t _ => n - (intOf t).toNat)
  case atStart => exact ⟨0, List.replicate n 0, Nat.zero_le _, rfl, by simp, Lib.hid (fun j h => by omega), HO1, HB1.out⟩
  case round =>
    obtain ⟨k, F, hk, rfl, hF, HN, HO, hB⟩ := hrel
    clear HO1 HB1
    have HB := Lib.hid hB
    clear hB
    by_cases hkn : k < n
    · obtain ⟨ck, fk⟩ := HO.out.cell hF k hkn
      go_wp2
      go_roundw
      case rel =>
        refine ⟨k + 1, F.set k (-1), by omega, by go_num, by rw [List.length_set]; exact hF, Lib.hid fun j hj => ?_, Lib.hid (HO.out.set k (-1)), HB.out.setCell (Nat.le_refl _) _⟩
        rw [getD_set _ _ _ _ (by omega)]
        by_cases e : j = k
        · rw [if_pos e]
        · rw [if_neg e]; exact HN.out j (by omega)
      case measure => simp [intOf]; omega
    · obtain rfl : k = n := by omega
      obtain ⟨cv, fv⟩ := HO.out.cell hF v hv
      have HO2 := Lib.hid (HO.out.set v 0)
      have HF2 : Hid (∀ i, i < k → farI NX v 1 ((F.set v 0).getD i 0) i) := Lib.hid fun i hi => by
        rw [getD_set _ _ _ _ (by omega)]
        have := farI_start NX v i
        by_cases e : i = v
        · rw [if_pos e] at this ⊢; exact this
        · rw [if_neg e] at this ⊢; rw [HN.out i hi]; exact this
      have HB2 : Hid (Below w.heap.size w (wr.setCell ⟨w.heap.size, v, none⟩ (.int .i64 0))) := Lib.hid (HB.out.setCell (Nat.le_refl _) _)
      have hF2 : (F.set v 0).length = k := by rw [List.length_set]; exact hF
      have HF3 := Lib.hid hF2
      obtain ⟨W, hW⟩ : ∃ W, W = wr.setCell ⟨w.heap.size, v, none⟩ (.int .i64 0) := ⟨_, rfl⟩
      rw [← hW] at HO2 HB2
      clear HN HO HB hk hkn hF2
      go_wp2
      rw [← hW]
      clear hW cv fv
      have HD0 : Hid (∃ i, i < k ∧ dstN NX v 0 i) := Lib.hid ⟨v, hv, rfl, fun d' h => by omega⟩
      go_loopw [7, 8] (fun t7 t8 wr => ∃ (m : Nat) (F : List Int) (b : Bool), t7 = .int .i64 ((m : Int) + 1) ∧ t8 = .bool b ∧ F.length = k ∧ m ≤ k ∧ Hid (∀ i, i < k → farI NX v (m + 1) (F.getD i 0) i) ∧ Hid (b = false → ∀ i, i < k → ¬ dstN NX v m i) ∧ Hid (b = true → ∃ i, i < k ∧ dstN NX v m i) ∧ Hid (FrO wr w.heap.size k F) ∧ Below w.heap.size w wr) (fun t7 _ _ => k + 2 - (intOf t7).toNat)
      case atStart => exact ⟨0, F.set v 0, true, rfl, rfl, HF3.out, Nat.zero_le _, HF2, Lib.hid (fun h => by cases h), Lib.hid (fun _ => HD0.out), HO2, HB2.out⟩
      case round =>
        clear HF2 HF3 HD0 HO2 HB2 hF F
        obtain ⟨m, F, b, rfl, rfl, hF, hmk, HF, HE, HD, HO, hB⟩ := hrel
        have HB := Lib.hid hB
        have HKN := HNN.out
        cases b
        · clear hB
          have HFI : Hid (∀ i, (hi : i < F.length) → farF NX v F[i] i) := Lib.hid fun i hi => by
            have h1 := HF.out i (by omega)
            rw [List.getD_eq_getElem?_getD, List.getElem?_eq_getElem hi] at h1
            exact farF_of HIN.out (by omega) h1 (fun j hj => HE.out rfl j (by omega))
          go_wp2
          go_ret
          exact ⟨_, F, rfl, by rw [← HNN.out]; exact HO.out, by rw [← HNN.out]; exact hF, HFI.out, HB.out⟩
        · have hmlt : m < k := by
            obtain ⟨i, hi, h⟩ := HD.out rfl
            have := dst_lt HIN.out (by omega) h
            omega
          have c1 : wr.cell? ⟨B, 1, none⟩ = some (.slice A' k cap') := by
            rw [(hB.cell (p := ⟨B, 1, none⟩) hltB), HC1.out, HNX.out]
          obtain ⟨W2, hW2⟩ : ∃ W2 : World, W2 = wr := ⟨_, rfl⟩
          subst hW2
          clear hB HD HKN
          go_wp2
          go_loopw [8, 39] (fun t8 t39 wr => ∃ (i : Nat) (F : List Int) (b : Bool), t39 = .int .i64 i ∧ t8 = .bool b ∧ F.length = k ∧ i ≤ k ∧ Hid (∀ a, a < k → farI NX v (if a < i then m + 2 else m + 1) (F.getD a 0) a) ∧ Hid (b = false → ∀ a, a < i → ¬ dstN NX v (m + 1) a) ∧ Hid (b = true → ∃ a, a < k ∧ dstN NX v (m + 1) a) ∧ Hid (FrO wr w.heap.size k F) ∧ Below w.heap.size w wr) (fun _ t39 _ => k - (intOf t39).toNat)
          case atStart => exact ⟨0, F, false, rfl, rfl, hF, Nat.zero_le _, Lib.hid (fun a ha => by rw [if_neg (by omega)]; exact HF.out a ha), Lib.hid (fun _ a ha => by omega), Lib.hid (fun h => by cases h), HO, HB.out⟩
          case round =>
            clear HO HB HF HE hF F
            obtain ⟨i, F, b, rfl, rfl, hF, hik, HF, HE, HD, HO, hB⟩ := hrel
            have HB := Lib.hid hB
            by_cases hlti : i < k
            · obtain ⟨g2, vi, rfl, z2, cvi, hit⟩ := HNE.out i (by rw [← HNN.out]; exact hlti)
              have cvi := (hB.cell (p := ⟨g2, i, none⟩) z2).trans cvi
              obtain ⟨A2, cap2, rfl, hels⟩ := hit
              have HELS := Lib.hid hels
              obtain ⟨I, hI⟩ : ∃ I, I = NX[i]'(by rw [← HNN.out]; exact hlti) := ⟨_, rfl⟩
              have HID : Hid (NX.getD i [] = I) := Lib.hid (by rw [hI, List.getD_eq_getElem?_getD, List.getElem?_eq_getElem (by rw [← HNN.out]; exact hlti)]; rfl)
              rw [← hI] at cvi
              have hIl : I.length ≤ 1000 := by have := HRW.out i; rw [HID.out] at this; exact this
              have HELS : Hid (∀ j, (hj : j < I.length) → ∃ g, A2 = some ⟨g, 0, none⟩ ∧ g < w.heap.size ∧ w.cell? ⟨g, j, none⟩ = some (.int .i64 (I[j] : Nat))) := Lib.hid (by subst hI; exact hels)
              obtain ⟨cfi, ffi⟩ := HO.out.cell hF i hlti
              have HFI := Lib.hid (HF.out i hlti)
              have HXV : Hid (F.getD i 0 = F.getD i 0) := Lib.hid rfl
              generalize hxx : F.getD i 0 = xi at cfi HFI
              have HXX := Lib.hid hxx
              clear hB hels hI hxx HXV
              by_cases hx : 0 ≤ xi
              · have HKP : Hid (∀ a, a < k → farI NX v (if a < i + 1 then m + 2 else m + 1) (F.getD a 0) a) := Lib.hid fun a ha => by
                  by_cases e : a = i
                  · subst e
                    rw [if_pos (by omega), HXX.out]
                    have := HFI.out
                    rw [if_neg (by omega)] at this
                    exact farI_keep this hx
                  · have := HF.out a ha
                    by_cases h : a < i
                    · rw [if_pos h] at this; rw [if_pos (by omega)]; exact this
                    · rw [if_neg h] at this; rw [if_neg (by omega)]; exact this
                have HEE : Hid (b = false → ∀ a, a < i + 1 → ¬ dstN NX v (m + 1) a) := Lib.hid fun hb a ha hd => by
                  by_cases e : a = i
                  · subst e
                    have := HFI.out
                    rw [if_neg (by omega)] at this
                    obtain ⟨d, h1, _, h3⟩ := (farI_ge this).1 hx
                    have := dst_one hd h3
                    omega
                  · exact HE.out hb a (by omega) hd
                go_wp2
                go_roundw
                case rel => exact ⟨i + 1, F, b, by go_num, rfl, hF, by omega, HKP, HEE, HD, HO, HB.out⟩
                case measure => simp [intOf]; omega
              · obtain ⟨W3, hW3⟩ : ∃ W3 : World, W3 = wr := ⟨_, rfl⟩
                subst hW3
                go_wp2
                go_loopw [8, 51] (fun t8 t wr => ∃ j : Nat, j ≤ I.length ∧ t = .int .i64 j ∧ t8 = .bool b ∧ Hid (∀ j', (h : j' < I.length) → j' < j → F.getD I[j'] 0 ≠ (m : Int)) ∧ Hid (wr = W3)) (fun _ t _ => I.length - (intOf t).toNat)
                case atStart => exact ⟨0, Nat.zero_le _, rfl, rfl, Lib.hid (fun j' _ h => by omega), Lib.hid rfl⟩
                case round =>
                  obtain ⟨j, hj, rfl, rfl, HNJ, HW⟩ := hrel
                  obtain rfl := HW.out
                  by_cases hltj : j < I.length
                  · obtain ⟨g4, rfl, z4, c4⟩ := HELS.out j hltj
                    have c4 := (HB.out.cell (p := ⟨g4, j, none⟩) z4).trans c4
                    have hkm : I[j] ∈ NX.getD i [] := by rw [HID.out]; exact List.getElem_mem hltj
                    have hkk : I[j] < k := by have h1 := HIN.out i _ hkm; rw [← HNN.out] at h1; exact h1
                    obtain ⟨kk, hkv⟩ : ∃ kk, kk = I[j] := ⟨_, rfl⟩
                    have HKM : Hid (kk ∈ NX.getD i []) := Lib.hid (by rw [hkv]; exact hkm)
                    have HKV := Lib.hid hkv
                    rw [← hkv] at c4 hkk
                    obtain ⟨ckk, _⟩ := HO.out.cell hF kk hkk
                    have HPV : Hid (F.getD kk 0 = (m : Int) ↔ dstN NX v m kk) := Lib.hid (by
                      refine farI_prev (m' := if kk < i then m + 2 else m + 1) ?_ (HF.out kk hkk)
                      by_cases h : kk < i
                      · rw [if_pos h]; exact .inr rfl
                      · rw [if_neg h]; exact .inl rfl)
                    have HVV : Hid (F.getD kk 0 = F.getD kk 0) := Lib.hid rfl
                    generalize hyy : F.getD kk 0 = yy at ckk HPV
                    have HYY := Lib.hid hyy
                    clear hkm hkv hyy HVV
                    by_cases hq : yy = (m : Int)
                    · have HFN : Hid (farI NX v (m + 2) ((m : Int) + 1) i) := Lib.hid (by
                        have h1 := HFI.out
                        rw [if_neg (by omega)] at h1
                        have := farI_new h1 (by omega) ⟨kk, HKM.out, HPV.out.1 hq⟩
                        rwa [show ((m + 1 : Nat) : Int) = (m : Int) + 1 by omega] at this)
                      have HDN : Hid (dstN NX v (m + 1) i) := Lib.hid (by
                        obtain ⟨d, _, h2, h3⟩ := (farI_ge HFN.out).1 (by omega)
                        have : d = m + 1 := by omega
                        rw [← this]; exact h3)
                      subst hq
                      go_wp2
                      go_roundw
                      case rel =>
                        refine ⟨i + 1, F.set i ((m : Int) + 1), true, by go_num, rfl, by rw [List.length_set]; exact hF, by omega, Lib.hid fun a ha => ?_, Lib.hid (fun h => by cases h), Lib.hid (fun _ => ⟨i, hlti, HDN.out⟩), Lib.hid (HO.out.set i _), HB.out.setCell (Nat.le_refl _) _⟩
                        rw [getD_set _ _ _ _ (by omega)]
                        by_cases e : a = i
                        · subst e
                          rw [if_pos rfl, if_pos (by omega)]
                          exact HFN.out
                        · rw [if_neg e]
                          have := HF.out a ha
                          by_cases h : a < i
                          · rw [if_pos h] at this; rw [if_pos (by omega)]; exact this
                          · rw [if_neg h] at this; rw [if_neg (by omega)]; exact this
                      case measure => simp [intOf]; omega
                    · have hqb : (yy == (m : Int)) = false := beq_eq_false_iff_ne.2 hq
                      have HQ := Lib.hid hq
                      clear hq
                      go_wp2
                      go_roundw
                      case rel =>
                        refine ⟨j + 1, by omega, by go_num, rfl, Lib.hid fun j' h1 h2 => ?_, by first | exact Lib.hid rfl | exact Lib.hid trivial⟩
                        by_cases e : j' = j
                        · subst e
                          rw [← HKV.out, HYY.out]
                          exact HQ.out
                        · exact HNJ.out j' h1 (by omega)
                      case measure => simp [intOf]; omega
                  · have HNO : Hid (farI NX v (m + 2) xi i ∧ ¬ dstN NX v (m + 1) i) := Lib.hid (by
                      have h1 := HFI.out
                      rw [if_neg (by omega)] at h1
                      refine farI_none h1 (by omega) ?_
                      rintro ⟨kk, hkm, hd⟩
                      have hkk : kk < k := by have h1 := HIN.out i _ hkm; rw [← HNN.out] at h1; exact h1
                      rw [HID.out] at hkm
                      obtain ⟨j', hj', e⟩ := List.getElem_of_mem hkm
                      refine HNJ.out j' hj' (by omega) ?_
                      rw [e]
                      refine (farI_prev (m' := if kk < i then m + 2 else m + 1) ?_ (HF.out kk hkk)).2 hd
                      by_cases h : kk < i
                      · rw [if_pos h]; exact .inr rfl
                      · rw [if_neg h]; exact .inl rfl)
                    go_wp2
                    go_roundw
                    case rel =>
                      refine ⟨i + 1, F, b, by go_num, rfl, hF, by omega, Lib.hid fun a ha => ?_, Lib.hid fun hb a ha hd => ?_, HD, HO, HB.out⟩
                      · by_cases e : a = i
                        · subst e
                          rw [if_pos (by omega), HXX.out]
                          exact HNO.out.1
                        · have := HF.out a ha
                          by_cases h : a < i
                          · rw [if_pos h] at this; rw [if_pos (by omega)]; exact this
                          · rw [if_neg h] at this; rw [if_neg (by omega)]; exact this
                      · by_cases e : a = i
                        · subst e
                          exact HNO.out.2 hd
                        · exact HE.out hb a (by omega) hd
                    case measure => simp [intOf]; omega
            · clear hB
              obtain rfl : i = k := by omega
              have HF2 : Hid (∀ a, a < i → farI NX v (m + 1 + 1) (F.getD a 0) a) := Lib.hid fun a ha => by
                have := HF.out a ha
                rwa [if_pos ha] at this
              go_wp2
              go_roundw
              case rel => exact ⟨m + 1, F, b, by go_num, rfl, hF, by omega, HF2, HE, HD, HO, HB.out⟩
              case measure => simp [intOf]; omega
end Go.Proofs.YtdcbjbmnkajjcaaDoor
namespace Go.Proofs.YtdcbjbmnkajjcaaDoor
open Go.RowKit

/-- The graph, made by the call. -/
def RePost (s : ByteArray) (w : World) (e : Ending) (w' : World) : Prop :=
  ∃ B R NX, e = .returned (.pointer (some ⟨B, 0, none⟩)) ∧ GrM w' B R NX ∧ GrOk s R NX ∧ R.length ≤ 100000 ∧ Below w.heap.size w w'
theorem nxC_le {x : ByteArray} (h : ringB x = true) : (nxC x).length ≤ 1000 := by
  unfold nxC
  rw [List.length_map]
  have h1 := rgTo_le x x.size
  have h2 := (ring_sz h).2
  have : x.size * x.size ≤ 9 * 9 := Nat.mul_le_mul h2 h2
  omega
theorem GrOk.rows {s : ByteArray} {R : List ByteArray} {NX : List (List Nat)} (h : GrOk s R NX) (hs : ringB s = true) (a : Nat) : (NX.getD a []).length ≤ 1000 := by
  by_cases ha : a < R.length
  · have h1 := h.cnt a R[a] (List.getElem?_eq_getElem ha)
    obtain ⟨q, hq⟩ := h.got R[a] (List.getElem_mem ha)
    have := nxC_le (same_run (same_of hs) hq).ring
    omega
  · rw [List.getD_eq_getElem?_getD, List.getElem?_eq_none (by rw [h.len]; omega)]
    simp
def PtPost (s v : ByteArray) (w : World) (e : Ending) (w' : World) : Prop :=
  ∃ B R NX, GrM w' B R NX ∧ GrOk s R NX ∧ R.length ≤ 100000 ∧ ((v ∉ R ∧ e = .returned (.tuple #[.pointer (some ⟨B, 0, none⟩), .slice none 0 0, .bool false])) ∨
    ∃ b x F, R[b]? = some v ∧ e = .returned (.tuple #[.pointer (some ⟨B, 0, none⟩), x, .bool true]) ∧ w'.ownsRow w.heap.size 3 1 x NX.length (itZ F) ∧ F.length = NX.length ∧ ∀ i, (hi : i < F.length) → farF NX b F[i] i) ∧ Below w.heap.size w w'

set_option maxRecDepth 100000 in
set_option maxHeartbeats 2000000 in
theorem ciPath_of (s v : ByteArray) (w : World) (hs : ringB s = true) (H : ∀ wx, Calls Tryd.prog 26 #[.string s] wx (RePost s wx)) :
    Calls Tryd.prog 33 #[.string s, .string v] w (PtPost s v w) := by
  have HR := Lib.hid H
  clear H
  go_enter Tryd.func33, Tryd.ntmps33
  go_wp2_with fail
  refine (HR.out _).mono ?_
  rintro e w1 ⟨B, R, NX, rfl, hM, hO, hn, hb1⟩
  have HM := Lib.hid hM
  have HO := Lib.hid hO
  have HB1 := Lib.hid hb1
  obtain ⟨hlt, ⟨A, cap, c0, hels⟩, _⟩ := hM
  have HELS := Lib.hid hels
  have HHB : Hid (∀ x : Unit, True) := Lib.hid fun _ => trivial
  clear hO hb1 hels HHB HR
  go_wp2
  go_loopw [17] (fun t wr => ∃ k : Nat, k ≤ R.length ∧ t = .int .i64 k ∧ Hid (∀ j, (hj : j < R.length) → j < k → R[j] ≠ v) ∧ Hid (wr = w1)) (fun t _ => R.length - (intOf t).toNat)
  case atStart => exact ⟨0, Nat.zero_le _, rfl, Lib.hid fun j _ h => by omega, Lib.hid rfl⟩
  case round =>
    obtain ⟨k, hk, rfl, HN, HW⟩ := hrel
    obtain rfl := HW.out
    by_cases hkl : k < R.length
    · obtain ⟨g, rfl, z, hc⟩ := HELS.out k hkl
      obtain ⟨y, hy⟩ : ∃ y, y = R[k] := ⟨_, rfl⟩
      rw [← hy] at hc
      have HY := Lib.hid hy
      clear hy
      by_cases hyx : y = v
      · have heq : (y.toList == v.toList) = true := by rw [hyx]; simp
        have HYX := Lib.hid hyx
        have HTO := Lib.hid (to_any B R NX k wr HM.out HO.out.len HO.out.inR (by rw [HO.out.len]; exact hkl) (by rw [HO.out.len]; exact hn) (HO.out.rows hs))
        clear hyx
        go_wp2_with fail
        refine HTO.out.mono ?_
        rintro e w2 ⟨x, F, rfl, h1, h2, h3, hb2⟩
        have HX := Lib.hid h1
        have HF := Lib.hid h2
        have HFF := Lib.hid h3
        have HB2 := Lib.hid hb2
        clear h1 h2 h3 hb2
        go_wp2
        (first | go_ret3 | go_ret2 | go_ret)
        have hx : R[k] = v := by rw [← HY.out]; exact HYX.out
        exact ⟨B, R, NX, HM.out.below HB2.out, HO.out, hn, .inr ⟨k, x, F, by rw [List.getElem?_eq_getElem hkl, hx], rfl, own_low HX.out HB1.out.size, HF.out, HFF.out⟩, HB1.out.trans (HB2.out.mono HB1.out.size)⟩
      · have heq : (y.toList == v.toList) = false := by
          rw [← str_byt y, ← str_byt v, same_str]
          simp
          exact fun e => hyx (byt_inj e)
        have HYX := Lib.hid hyx
        clear hyx
        go_wp2
        go_roundw
        case rel =>
          refine ⟨k + 1, by omega, by go_num, Lib.hid fun j hj hjk => ?_, by first | exact Lib.hid rfl | exact Lib.hid trivial⟩
          by_cases e : j = k
          · subst e
            rw [← HY.out]
            exact HYX.out
          · exact HN.out j hj (by omega)
        case measure => simp [intOf]; omega
    · have HX : Hid (v ∉ R) := Lib.hid fun hm => by
        obtain ⟨j, hj, e⟩ := List.getElem_of_mem hm
        exact HN.out j hj (by omega) e
      go_wp2
      (first | go_ret3 | go_ret2 | go_ret)
      exact ⟨B, R, NX, HM.out, HO.out, hn, .inl ⟨HX.out, rfl⟩, HB1.out⟩
end Go.Proofs.YtdcbjbmnkajjcaaDoor
namespace Go.Proofs.YtdcbjbmnkajjcaaDoor
open Go.RowKit

theorem least_j (P : Nat → Prop) : ∀ n, P n → ∃ j, P j ∧ ∀ j', j' < j → ¬ P j' := by
  intro n
  induction n using Nat.strongRecOn with
  | _ n ih =>
    intro h
    by_cases hh : ∃ j, j < n ∧ P j
    · obtain ⟨j, h1, h2⟩ := hh
      exact ih j h1 h2
    · exact ⟨n, h, fun j' h1 h2 => hh ⟨j', h1, h2⟩⟩
theorem down_ex {NX : List (List Nat)} {v : Nat} : ∀ (d i : Nat), dstN NX v d i → ∃ q, q.length = d ∧ DownP NX v i q := by
  intro d
  induction d with
  | zero => intro i h; exact ⟨[], rfl, h⟩
  | succ d ih =>
    intro i h
    obtain ⟨_, k, hk, h2⟩ := dst_next.1 h
    obtain ⟨j0, hj0, e0⟩ := List.getElem_of_mem hk
    obtain ⟨j, ⟨k', h3, h4⟩, h5⟩ := least_j (fun j => ∃ k, (NX.getD i [])[j]? = some k ∧ dstN NX v d k) j0 ⟨k, by rw [List.getElem?_eq_getElem hj0, e0], h2⟩
    obtain ⟨q, h6, h7⟩ := ih k' h4
    refine ⟨j :: q, by rw [List.length_cons, h6], k', h3, by rw [h6]; exact h4, by rw [h6]; exact h, fun j' k2 h8 h9 => ?_, h7⟩
    rw [h6]
    exact fun h10 => h5 j' h8 ⟨k2, h9, h10⟩
/-- What the distance of the first ring tells. -/
theorem GrOk.far0 {s v : ByteArray} {R : List ByteArray} {NX : List (List Nat)} (h : GrOk s R NX) {b : Nat} (hv : R[b]? = some v) {F : List Int} (hF : F.length = NX.length) (hf : ∀ i, (hi : i < F.length) → farF NX b F[i] i) :
    ∃ q, DownP NX b 0 q ∧ PathIs s v (some q) ∧ F.getD 0 0 = (q.length : Int) ∧ 0 < F.length := by
  have h0 : 0 < F.length := by
    rw [hF, h.len]
    exact (List.getElem?_eq_some_iff.1 h.first).1
  obtain ⟨q0, hq0⟩ := h.got v (List.mem_of_getElem? hv)
  obtain ⟨d, _, hd⟩ := dst_of _ (runN_rch q0 0 ((h.runTo h.first hv).1 hq0))
  obtain ⟨q, h1, h2⟩ := down_ex d 0 hd
  refine ⟨q, h2, h.path hv h2, ?_, h0⟩
  rw [List.getD_eq_getElem?_getD, List.getElem?_eq_getElem h0, h1]
  exact (farF_val (hf 0 h0)).2 hd

set_option maxRecDepth 100000 in
set_option maxHeartbeats 1000000 in
theorem sShort_of (s v : ByteArray) (w : World) (hs : ringB s = true) (hv : ringB v = true) (H : ∀ wx, Calls Tryd.prog 26 #[.string s] wx (RePost s wx)) :
    Calls Tryd.prog 15 #[.string s, .string v] w fun e w' => ∃ o, PathIs s v o ∧ e = .returned (lenP o) ∧ Below w.heap.size w w' := by
  have hsz : ∀ x, ringB x = true → x.size ≤ maxLen := fun x h => by have := (ring_sz h).2; unfold maxLen; omega
  have HGS : Hid (∀ wx, Calls Tryd.prog 24 #[.string s] wx fun e w' => e = .returned (.bool true) ∧ wx = w') := Lib.hid fun wx => by
    have := ciGood_any s wx (hsz s hs)
    rwa [hs] at this
  have HGV : Hid (∀ wx, Calls Tryd.prog 24 #[.string v] wx fun e w' => e = .returned (.bool true) ∧ wx = w') := Lib.hid fun wx => by
    have := ciGood_any v wx (hsz v hv)
    rwa [hv] at this
  have HP := Lib.hid (fun wx => ciPath_of s v wx hs H)
  clear H
  go_enter Tryd.func15, Tryd.ntmps15
  go_wp2_with fail
  refine (HGS.out _).mono ?_
  rintro e w' ⟨rfl, rfl⟩
  go_wp2_with fail
  refine (HGV.out _).mono ?_
  rintro e w' ⟨rfl, rfl⟩
  go_wp2_with fail
  refine (HP.out _).mono ?_
  rintro e w1 ⟨B, R, NX, hM, hO, hn, ⟨hvR, rfl⟩ | ⟨b, x, F, hb, rfl, hw, hF, hf⟩, hb1⟩
  · have HN := Lib.hid (hO.none hvR)
    have HB := Lib.hid hb1
    clear hM hO hvR hb1
    go_wp2
    go_ret2
    exact ⟨none, HN.out, rfl, HB.out⟩
  · obtain ⟨q, _, hq, h0, hl⟩ := hO.far0 hb hF hf
    obtain ⟨A, cap, rfl⟩ := own_form hw
    have hNX : 0 < NX.length := by omega
    obtain ⟨g, rfl⟩ : ∃ g, A = some ⟨g, 0, none⟩ := by
      rcases hw.2 with ⟨_, h2⟩ | ⟨g, cap', _, h1, _⟩
      · omega
      · injection h1 with h1 _ _
        exact ⟨g, h1⟩
    have c0 := (hw.cellAt 0 (by omega)).trans (itZ_at F 0 hl)
    rw [h0] at c0
    have HQ := Lib.hid hq
    have HB := Lib.hid hb1
    clear hM hO hb hw hF hf hb1 hq h0
    go_wp2
    go_ret2
    exact ⟨some q, HQ.out, rfl, HB.out⟩
set_option maxRecDepth 100000 in
set_option maxHeartbeats 1000000 in
theorem sReach_of (s v : ByteArray) (w : World) (hs : ringB s = true) (hv : ringB v = true) (H : ∀ wx, Calls Tryd.prog 26 #[.string s] wx (RePost s wx)) :
    Calls Tryd.prog 13 #[.string s, .string v] w fun e w' => ∃ o, PathIs s v o ∧ e = .returned (.tuple #[.bool o.isSome, .bool true]) ∧ Below w.heap.size w w' := by
  have hsz : ∀ x, ringB x = true → x.size ≤ maxLen := fun x h => by have := (ring_sz h).2; unfold maxLen; omega
  have HGS : Hid (∀ wx, Calls Tryd.prog 24 #[.string s] wx fun e w' => e = .returned (.bool true) ∧ wx = w') := Lib.hid fun wx => by
    have := ciGood_any s wx (hsz s hs)
    rwa [hs] at this
  have HGV : Hid (∀ wx, Calls Tryd.prog 24 #[.string v] wx fun e w' => e = .returned (.bool true) ∧ wx = w') := Lib.hid fun wx => by
    have := ciGood_any v wx (hsz v hv)
    rwa [hv] at this
  have HP := Lib.hid (fun wx => ciPath_of s v wx hs H)
  clear H
  go_enter Tryd.func13, Tryd.ntmps13
  go_wp2_with fail
  refine (HGS.out _).mono ?_
  rintro e w' ⟨rfl, rfl⟩
  go_wp2_with fail
  refine (HGV.out _).mono ?_
  rintro e w' ⟨rfl, rfl⟩
  go_wp2_with fail
  refine (HP.out _).mono ?_
  rintro e w1 ⟨B, R, NX, hM, hO, hn, ⟨hvR, rfl⟩ | ⟨b, x, F, hb, rfl, hw, hF, hf⟩, hb1⟩
  · have HN := Lib.hid (hO.none hvR)
    have HB := Lib.hid hb1
    clear hM hO hvR hb1
    go_wp2
    go_ret2
    exact ⟨none, HN.out, rfl, HB.out⟩
  · obtain ⟨q, _, hq, h0, hl⟩ := hO.far0 hb hF hf
    have HQ := Lib.hid hq
    have HB := Lib.hid hb1
    clear hM hO hb hw hF hf hb1 hq h0
    go_wp2
    go_ret2
    exact ⟨some q, HQ.out, rfl, HB.out⟩
set_option maxRecDepth 100000 in
set_option maxHeartbeats 1000000 in
theorem sShort_no (s v : ByteArray) (w : World) (hs : s.size ≤ maxLen) (hv : v.size ≤ maxLen) (h : (ringB s && ringB v) = false) :
    Calls Tryd.prog 15 #[.string s, .string v] w fun e w' => e = .returned (lenP none) ∧ w = w' := by
  have HGS := Lib.hid (fun wx => ciGood_any s wx hs)
  have HGV := Lib.hid (fun wx => ciGood_any v wx hv)
  cases hs' : ringB s
  · rw [hs'] at HGS
    clear h hs'
    go_enter Tryd.func15, Tryd.ntmps15
    go_wp2_with fail
    refine (HGS.out _).mono ?_
    rintro e w' ⟨rfl, rfl⟩
    go_wp2
    go_ret2
    exact ⟨rfl, rfl⟩
  · rw [hs', Bool.true_and] at h
    rw [hs'] at HGS
    rw [h] at HGV
    clear h hs'
    go_enter Tryd.func15, Tryd.ntmps15
    go_wp2_with fail
    refine (HGS.out _).mono ?_
    rintro e w' ⟨rfl, rfl⟩
    go_wp2_with fail
    refine (HGV.out _).mono ?_
    rintro e w' ⟨rfl, rfl⟩
    go_wp2
    go_ret2
    exact ⟨rfl, rfl⟩
set_option maxRecDepth 100000 in
set_option maxHeartbeats 1000000 in
theorem sReach_no (s v : ByteArray) (w : World) (hs : s.size ≤ maxLen) (hv : v.size ≤ maxLen) (h : (ringB s && ringB v) = false) :
    Calls Tryd.prog 13 #[.string s, .string v] w fun e w' => e = .returned (.tuple #[.bool false, .bool false]) ∧ w = w' := by
  have HGS := Lib.hid (fun wx => ciGood_any s wx hs)
  have HGV := Lib.hid (fun wx => ciGood_any v wx hv)
  cases hs' : ringB s
  · rw [hs'] at HGS
    clear h hs'
    go_enter Tryd.func13, Tryd.ntmps13
    go_wp2_with fail
    refine (HGS.out _).mono ?_
    rintro e w' ⟨rfl, rfl⟩
    go_wp2
    go_ret2
    exact ⟨rfl, rfl⟩
  · rw [hs', Bool.true_and] at h
    rw [hs'] at HGS
    rw [h] at HGV
    clear h hs'
    go_enter Tryd.func13, Tryd.ntmps13
    go_wp2_with fail
    refine (HGS.out _).mono ?_
    rintro e w' ⟨rfl, rfl⟩
    go_wp2_with fail
    refine (HGV.out _).mono ?_
    rintro e w' ⟨rfl, rfl⟩
    go_wp2
    go_ret2
    exact ⟨rfl, rfl⟩
end Go.Proofs.YtdcbjbmnkajjcaaDoor
namespace Go.Proofs.YtdcbjbmnkajjcaaDoor
open Go.RowKit

/-- What is known of the rings found and of the lists made, within one ring's moves. -/
structure GrP (s : ByteArray) (R : List ByteArray) (NX : List (List Nat)) (k : Nat) (I : List Nat) (j : Nat) : Prop where
  nd : R.Nodup
  len : NX.length = k
  first : R[0]? = some s
  cn : ∀ a x, a < k → R[a]? = some x → (NX.getD a []).length = (nxC x).length
  nx : ∀ (a : Nat) (x : ByteArray) (j i : Nat), a < k → R[a]? = some x → (NX.getD a [])[j]? = some i → ∃ y, (nxC x)[j]? = some y ∧ R[i]? = some y
  cur : ∀ x, R[k]? = some x → ∀ (j' i : Nat), I[j']? = some i → ∃ y, (nxC x)[j']? = some y ∧ R[i]? = some y
  il : I.length = j
  got : ∀ x ∈ R, ∃ q, runP nxC s q = some x
theorem GrP.start (s : ByteArray) : GrP s [s] [] 0 [] 0 := by
  refine ⟨by simp, rfl, rfl, fun a x h => by omega, fun a x j i h => by omega, fun x _ j' i h => by simp at h, rfl, fun x hx => ?_⟩
  obtain rfl : x = s := by simpa using hx
  exact ⟨[], rfl⟩
theorem getD_snoc_lt {α : Type} (L : List α) (x d : α) (a : Nat) (h : a < L.length) : (L ++ [x]).getD a d = L.getD a d := by
  rw [List.getD_eq_getElem?_getD, List.getElem?_append_left h, ← List.getD_eq_getElem?_getD]
theorem getD_snoc_eq {α : Type} (L : List α) (x d : α) : (L ++ [x]).getD L.length d = x := by simp [List.getD_eq_getElem?_getD]
section
variable {s : ByteArray} {R : List ByteArray} {NX : List (List Nat)} {k j : Nat} {I : List Nat}
theorem GrP.find (h : GrP s R NX k I j) {u x : ByteArray} {R' : List ByteArray} {i : Nat} (hk : k < R.length) (hu : R[k]? = some u) (hx : (nxC u)[j]? = some x) (hR : (x ∈ R ∧ R' = R) ∨ (x ∉ R ∧ R' = R ++ [x])) (hi : R'[i]? = some x) :
    GrP s R' NX k (I ++ [i]) (j + 1) ∧ R'[k]? = some u ∧ k < R'.length := by
  have hpre : ∀ (a : Nat) (y : ByteArray), R[a]? = some y → R'[a]? = some y := fun a y hy => by
    rcases hR with ⟨_, rfl⟩ | ⟨_, rfl⟩
    · exact hy
    · rw [List.getElem?_append_left (List.getElem?_eq_some_iff.1 hy).1]; exact hy
  have hold : ∀ (a : Nat) (y : ByteArray), a < R.length → R'[a]? = some y → R[a]? = some y := fun a y ha hy => by
    have h1 := hpre a _ (List.getElem?_eq_getElem ha)
    rw [hy] at h1
    rw [h1, List.getElem?_eq_getElem ha]
  have hkl := h.len
  refine ⟨⟨?_, h.len, hpre _ _ h.first, fun a y ha hy => h.cn a y ha (hold a y (by omega) hy), fun a y j2 i2 ha hy hn => ?_, fun y hy j2 i2 hn => ?_, by rw [List.length_append, h.il]; rfl, fun y hy => ?_⟩, hpre _ _ hu, (List.getElem?_eq_some_iff.1 (hpre _ _ hu)).1⟩
  · rcases hR with ⟨_, rfl⟩ | ⟨hn, rfl⟩
    · exact h.nd
    · rw [List.nodup_append]
      exact ⟨h.nd, by simp, fun a ha b hb e => hn (by
        obtain rfl : b = x := by simpa using hb
        rw [← e]; exact ha)⟩
  · obtain ⟨z, h1, h2⟩ := h.nx a y j2 i2 ha (hold a y (by omega) hy) hn
    exact ⟨z, h1, hpre _ _ h2⟩
  · have hyu : y = u := by
      rw [hpre _ _ hu] at hy
      injection hy with hy
      exact hy.symm
    subst hyu
    by_cases e : j2 < I.length
    · rw [List.getElem?_append_left e] at hn
      obtain ⟨z, h1, h2⟩ := h.cur y hu j2 i2 hn
      exact ⟨z, h1, hpre _ _ h2⟩
    · rw [List.getElem?_append_right (by omega)] at hn
      have h0 : j2 - I.length = 0 := by
        have := (List.getElem?_eq_some_iff.1 hn).1
        simp at this
        omega
      rw [h0] at hn
      injection hn with hn
      obtain rfl : j2 = j := by have := h.il; omega
      exact ⟨x, hx, by rw [← hn]; exact hi⟩
  · rcases hR with ⟨_, rfl⟩ | ⟨_, rfl⟩
    · exact h.got y hy
    · rcases List.mem_append.1 hy with hy | hy
      · exact h.got y hy
      · obtain rfl : y = x := by simpa using hy
        obtain ⟨q, hq⟩ := h.got u (List.mem_of_getElem? hu)
        refine ⟨q ++ [j], ?_⟩
        rw [runP_snoc, hq]
        exact hx
theorem GrP.row (h : GrP s R NX k I j) {u : ByteArray} (hu : R[k]? = some u) (hj : j = (nxC u).length) : GrP s R (NX ++ [I]) (k + 1) [] 0 := by
  have hkl := h.len
  refine ⟨h.nd, by rw [List.length_append, h.len]; rfl, h.first, fun a x ha hx => ?_, fun a x j2 i2 ha hx hn => ?_, fun x _ j2 i2 hn => by simp at hn, rfl, h.got⟩
  · by_cases e : a < k
    · rw [getD_snoc_lt _ _ _ _ (by omega)]
      exact h.cn a x e hx
    · obtain rfl : a = k := by omega
      rw [hu] at hx
      injection hx with hx
      rw [← hkl, getD_snoc_eq, h.il, hj, hx]
  · by_cases e : a < k
    · rw [getD_snoc_lt _ _ _ _ (by omega)] at hn
      exact h.nx a x j2 i2 e hx hn
    · obtain rfl : a = k := by omega
      have hn2 : ((NX ++ [I]).getD NX.length [])[j2]? = some i2 := by rw [hkl]; exact hn
      rw [getD_snoc_eq] at hn2
      exact h.cur x hx j2 i2 hn2
theorem GrP.fin (h : GrP s R NX k [] 0) (hk : k = R.length) : GrOk s R NX :=
  ⟨h.nd, by rw [h.len, hk], h.first, fun a x hx => h.cn a x (by rw [hk]; exact (List.getElem?_eq_some_iff.1 hx).1) hx, fun a x j i hx hn => h.nx a x j i (by rw [hk]; exact (List.getElem?_eq_some_iff.1 hx).1) hx hn, h.got⟩
theorem GrP.few (h : GrP s R NX k I j) (hs : ringB s = true) : R.length ≤ 100000 := by
  have hsm := same_of hs
  have h1 := same_few R h.nd fun x hx => by
    obtain ⟨q, hq⟩ := h.got x hx
    exact same_run hsm hq
  have hsz := hsm.sum
  have h9 := (ring_sz hs).2
  have h2 : manyK (cnt 84 (byt s)) (cnt 46 (byt s)) (cnt 70 (byt s)) ≤ 100000 := by
    have h1 : thrC (cnt 84 (byt s)) (cnt 46 (byt s)) (cnt 70 (byt s)) = true := (thrC_iff _ _ _).2 (by have := hsm.sum; have := ring_sz hs; omega)
    have := many9 h1
    have := manyK_eq hsm.three
    omega
  omega
end
-- memory
theorem rows_apartG {W : World} {b b' : Nat} {e e' : TypeId} {n n' m m' : Nat} {v v' : Value} {xs xs' : List Value} (h : W.ownsRow b e m v n xs) (h' : W.ownsRow b' e' m' v' n' xs') (hne : e ≠ e') : ∀ g, v.ownBlock = some g → v'.ownBlock ≠ some g := by
  intro gg hgg
  rcases h.2 with ⟨hv, _⟩ | ⟨g, cap, cur, rfl, _, hg, _⟩
  · subst hv; cases hgg
  · intro e2
    injection hgg with hgg
    have hgg : g = gg := hgg
    subst hgg
    rcases h'.2 with ⟨hv, _⟩ | ⟨g', cap', cur', rfl, _, hg', _⟩
    · subst hv; cases e2
    · injection e2 with e2
      have e2 : g' = g := e2
      subst e2
      rw [hg] at hg'
      injection hg' with hg'
      injection hg' with _ h3 _
      exact hne h3
theorem own_blkG {W W' : World} {b m n : Nat} {e : TypeId} {v : Value} {xs : List Value} (h : W.ownsRow b e m v n xs) (hb : ∀ g, v.ownBlock = some g → W'.heap[g]? = W.heap[g]?) : W'.ownsRow b e m v n xs := by
  refine ⟨h.1, ?_⟩
  rcases h.2 with h2 | ⟨g, cap, cur, rfl, a1, a2, r⟩
  · exact .inl h2
  · exact .inr ⟨g, cap, cur, rfl, a1, (hb g rfl).trans a2, r⟩
theorem T_g1 : (9 : TypeId) ≠ 54 := by decide
theorem T_g2 : (9 : TypeId) ≠ 3 := by decide
theorem T_g3 : (54 : TypeId) ≠ 3 := by decide
/-- The graph in the making. -/
structure GrW (W : World) (B R0 : Nat) (R : List ByteArray) (NX : List (List Nat)) (v1 v2 : Value) (vs : List Value) : Prop where
  gr : GrS W B R0 R v1 v2
  row : W.ownsRow (B + 1) 54 1 v2 NX.length vs
  its : ∀ (k : Nat) (h : k < NX.length) (v : Value), vs[k]? = some v → W.ownsRow (B + 1) 3 1 v NX[k].length (itN NX[k])
theorem GrS.kept {W W' : World} {B R0 : Nat} {R : List ByteArray} {v1 v2 : Value} (h : GrS W B R0 R v1 v2) (hs : W.heap.size ≤ W'.heap.size) (hB : W'.heap[B]? = W.heap[B]?) (h1 : ∀ g, v1.ownBlock = some g → W'.heap[g]? = W.heap[g]?) : GrS W' B R0 R v1 v2 :=
  ⟨(World.cell?_of_block (a := ⟨B, 0, none⟩) hB).trans h.c0, (World.cell?_of_block (a := ⟨B, 1, none⟩) hB).trans h.c1, frz_block hB h.f0, frz_block hB h.f1, Nat.lt_of_lt_of_le h.lt hs, h.ap, Nat.le_trans h.hi hs, own_blkG h.row h1⟩
/-- All blocks that the graph reads stand. -/
theorem GrW.kept {W W' : World} {B R0 : Nat} {R : List ByteArray} {NX : List (List Nat)} {v1 v2 : Value} {vs : List Value} (h : GrW W B R0 R NX v1 v2 vs) (hs : W.heap.size ≤ W'.heap.size) (hB : W'.heap[B]? = W.heap[B]?)
    (h1 : ∀ g, v1.ownBlock = some g → W'.heap[g]? = W.heap[g]?) (h2 : ∀ g, v2.ownBlock = some g → W'.heap[g]? = W.heap[g]?) (h3 : ∀ (k : Nat) (v : Value), vs[k]? = some v → ∀ g, v.ownBlock = some g → W'.heap[g]? = W.heap[g]?) : GrW W' B R0 R NX v1 v2 vs :=
  ⟨h.gr.kept hs hB h1, own_blkG h.row h2, fun k hk v hv => own_blkG (h.its k hk v hv) (h3 k v hv)⟩
theorem GrW.lts {W : World} {B R0 : Nat} {R : List ByteArray} {NX : List (List Nat)} {v1 v2 : Value} {vs : List Value} (h : GrW W B R0 R NX v1 v2 vs) (k : Nat) (v : Value) (hv : vs[k]? = some v) (g : Nat) (hg : v.ownBlock = some g) : B + 1 ≤ g ∧ g < W.heap.size := by
  have hl := h.row.1
  have hk : k < NX.length := by have := (List.getElem?_eq_some_iff.1 hv).1; omega
  exact (h.its k hk v hv).lt g hg
theorem GrW.below {W W' : World} {B R0 : Nat} {R : List ByteArray} {NX : List (List Nat)} {v1 v2 : Value} {vs : List Value} (h : GrW W B R0 R NX v1 v2 vs) (hb : Below W.heap.size W W') : GrW W' B R0 R NX v1 v2 vs :=
  h.kept hb.size (hb.block B h.gr.lt) (fun g hg => hb.block g (h.gr.row.lt g hg).2) (fun g hg => hb.block g (h.row.lt g hg).2) (fun k v hv g hg => hb.block g (h.lts k v hv g hg).2)
/-- A ring looked for. -/
theorem GrW.find {W W' : World} {B R0 : Nat} {R R' : List ByteArray} {NX : List (List Nat)} {v1 v1' v2 : Value} {vs : List Value} (h : GrW W B R0 R NX v1 v2 vs) (hg : GrS W' B R0 R' v1' v2) (hk : KpF B v1.ownBlock W W') : GrW W' B R0 R' NX v1' v2 vs := by
  have hl := h.row.1
  refine ⟨hg, own_blkG h.row fun g hgb => hk.block g (h.row.lt g hgb).2 (fun e => ?_) (fun e => rows_apartG h.row h.gr.row T_g1.symm g hgb e.symm), fun k hk2 v hv => own_blkG (h.its k hk2 v hv) fun g hgb => hk.block g ((h.its k hk2 v hv).lt g hgb).2 (fun e => ?_) (fun e => rows_apartG (h.its k hk2 v hv) h.gr.row T_g2.symm g hgb e.symm)⟩
  · have := (h.row.lt g hgb).1
    omega
  · have := ((h.its k hk2 v hv).lt g hgb).1
    omega
/-- The list of one ring, kept while a ring is looked for. -/
theorem cur_find {W W' : World} {B R0 R1 n : Nat} {R : List ByteArray} {v1 v2 u : Value} {xs : List Value} (h : GrS W B R0 R v1 v2) (hk : KpF B v1.ownBlock W W') (h1 : B + 1 ≤ R1) (hu : W.ownsRow R1 3 1 u n xs) : W'.ownsRow R1 3 1 u n xs :=
  own_blkG hu fun g hgb => hk.block g (hu.lt g hgb).2 (fun e => by have := (hu.lt g hgb).1; omega) (fun e => rows_apartG hu h.row T_g2.symm g hgb e.symm)
/-- The list of one ring grows. -/
theorem GrW.grow {W W' : World} {B R0 R1 n : Nat} {R : List ByteArray} {NX : List (List Nat)} {v1 v2 u : Value} {vs xs : List Value} (h : GrW W B R0 R NX v1 v2 vs) (hu : W.ownsRow R1 3 1 u n xs) (h1 : B + 1 ≤ R1) (hlt : ∀ (k : Nat) (v : Value), vs[k]? = some v → ∀ g, v.ownBlock = some g → g < R1) (hg : W.grownBy W' u.ownBlock) : GrW W' B R0 R NX v1 v2 vs := by
  refine h.kept hg.size (hg.block B h.gr.lt (fun e => ?_)) (fun g hgb => hg.block g (h.gr.row.lt g hgb).2 (fun e => rows_apartG hu h.gr.row T_g2.symm g e.symm hgb)) (fun g hgb => hg.block g (h.row.lt g hgb).2 (fun e => rows_apartG hu h.row T_g3.symm g e.symm hgb)) (fun k v hv g hgb => hg.block g (h.lts k v hv g hgb).2 (fun e => ?_))
  · have := (hu.lt B e.symm).1
    omega
  · have := (hu.lt g e.symm).1
    have := hlt k v hv g hgb
    omega
/-- .. is added to the others. -/
theorem GrW.more {W W' : World} {B R0 R1 : Nat} {R : List ByteArray} {NX : List (List Nat)} {I : List Nat} {v1 v2 v2' u : Value} {vs : List Value} (h : GrW W B R0 R NX v1 v2 vs) (hu : W.ownsRow R1 3 1 u I.length (itN I)) (h1 : B + 1 ≤ R1) (hg : W.grownBy W' v2.ownBlock) (hr : W'.ownsRow (B + 1) 54 1 v2' (NX.length + 1) (vs ++ [u])) :
    GrW (W'.setCell ⟨B, 1, none⟩ v2') B R0 R (NX ++ [I]) v1 v2' (vs ++ [u]) := by
  have hl := h.row.1
  have hblk : ∀ g, g < W.heap.size → g ≠ B → v2.ownBlock ≠ some g → (W'.setCell ⟨B, 1, none⟩ v2').heap[g]? = W.heap[g]? := fun g hlt hne hb => by
    rw [Below.heap_setCell _ _ _ _ hne]
    exact hg.block g hlt (fun e => hb e.symm)
  have hBb : W'.heap[B]? = W.heap[B]? := hg.block B h.gr.lt (fun e => by have := (h.row.lt B e.symm).1; omega)
  have hs : W.heap.size ≤ (W'.setCell ⟨B, 1, none⟩ v2').heap.size := by have := hg.size; simpa using this
  refine ⟨⟨?_, World.cell?_setCell_same _ _ _ ((World.cell?_of_block (a := ⟨B, 1, none⟩) hBb).trans h.gr.c1), ?_, ?_, Nat.lt_of_lt_of_le h.gr.lt hs, h.gr.ap, Nat.le_trans h.gr.hi hs, own_blkG h.gr.row fun g hgb => hblk g (h.gr.row.lt g hgb).2 (fun e => h.gr.ap (by rw [hgb, e])) (rows_apartG h.gr.row h.row T_g1 g hgb)⟩, ?_, fun k hk v hv => ?_⟩
  · rw [World.cell?_setCell_other _ _ _ _ (by intro e; injection e with _ e; omega)]
    exact (World.cell?_of_block (a := ⟨B, 0, none⟩) hBb).trans h.gr.c0
  · have := frz_block hBb h.gr.f0
    simpa using this
  · have := frz_block hBb h.gr.f1
    simpa using this
  · rw [List.length_append]
    exact own_blkG hr fun g hgb => Below.heap_setCell _ _ _ _ (by have := (hr.lt g hgb).1; show g ≠ B; omega)
  · by_cases e : k < NX.length
    · rw [List.getElem?_append_left (by omega)] at hv
      have := h.its k e v hv
      rw [show (NX ++ [I])[k] = NX[k] from List.getElem_append_left e]
      exact own_blkG this fun g hgb => hblk g (this.lt g hgb).2 (by have := (this.lt g hgb).1; omega) (rows_apartG this h.row T_g3.symm g hgb)
    · have hk2 : k = NX.length := by rw [List.length_append] at hk; simp at hk; omega
      subst hk2
      rw [List.getElem?_append_right (by omega)] at hv
      have h0 : NX.length - vs.length = 0 := by omega
      rw [h0] at hv
      injection hv with hv
      subst hv
      rw [show (NX ++ [I])[NX.length] = I by simp]
      have hu2 := own_low hu h1
      exact own_blkG hu2 fun g hgb => hblk g (hu2.lt g hgb).2 (by have := (hu2.lt g hgb).1; omega) (rows_apartG hu2 h.row T_g3.symm g hgb)
theorem GrW.mem {W : World} {B R0 : Nat} {R : List ByteArray} {NX : List (List Nat)} {v1 v2 : Value} {vs : List Value} (h : GrW W B R0 R NX v1 v2 vs) : GrM W B R NX := by
  have hl := h.row.1
  refine ⟨h.gr.lt, ?_, ?_⟩
  · obtain ⟨A, cap, hv⟩ := own_form h.gr.row
    subst hv
    refine ⟨A, cap, h.gr.c0, fun k hk => ?_⟩
    rcases h.gr.row.2 with ⟨h1, h2⟩ | ⟨g, cap', _, h1, _, hg, _⟩
    · omega
    · injection h1 with h1 _ _
      subst h1
      exact ⟨g, rfl, (Array.getElem?_eq_some_iff.1 hg).1, (h.gr.row.cellAt k (by omega)).trans (txB_at R k hk)⟩
  · obtain ⟨A, cap, hv⟩ := own_form h.row
    subst hv
    refine ⟨A, cap, h.gr.c1, fun k hk => ?_⟩
    have hvk : vs[k]? = some (vs[k]'(by omega)) := List.getElem?_eq_getElem (by omega)
    rcases h.row.2 with ⟨h1, h2⟩ | ⟨g, cap', _, h1, _, hg, _⟩
    · omega
    · injection h1 with h1 _ _
      subst h1
      refine ⟨g, vs[k]'(by omega), rfl, (Array.getElem?_eq_some_iff.1 hg).1, (h.row.cellAt k (by omega)).trans hvk, ?_⟩
      have hit := h.its k hk _ hvk
      obtain ⟨A2, cap2, hv2⟩ := own_form hit
      rw [hv2] at hit ⊢
      refine ⟨A2, cap2, rfl, fun j hj => ?_⟩
      rcases hit.2 with ⟨h3, h4⟩ | ⟨g2, cap3, _, h3, _, hg2, _⟩
      · omega
      · injection h3 with h3 _ _
        subst h3
        exact ⟨g2, rfl, (Array.getElem?_eq_some_iff.1 hg2).1, (hit.cellAt j (by omega)).trans (by simp [itN, hj])⟩
end Go.Proofs.YtdcbjbmnkajjcaaDoor
namespace Go.Proofs.YtdcbjbmnkajjcaaDoor
open Go.RowKit

theorem at_ownG {w : World} {base : Nat} {A : Option Addr} {cap : Nat} {l : List (Int × Int)} (h : w.ownsRow base 58 2 (.slice A l.length cap) l.length (flat l)) : MvAt w A l := by
  obtain ⟨A', cap', e, h⟩ := at_of_own h
  injection e with e1 _ e2
  subst e1
  exact h
theorem Tryd.infoG1 : (Tryd.prog.info? 3).map (fun i => (i.zero, i.size, i.bytes)) = some (some (.int .i64 0), 1, 8) := by kernel_rfl
theorem Tryd.infoG2 : (Tryd.prog.info? 54).map (fun i => (i.zero, i.size, i.bytes)) = some (some (.slice none 0 0), 1, 24) := by kernel_rfl
theorem T_g4 : (58 : TypeId) ≠ 9 := by decide
theorem T_g5 : (58 : TypeId) ≠ 3 := by decide
/-- The moves of one ring stay while a ring is looked for. -/
theorem mv_find {W W' : World} {B R0 R1 n : Nat} {R : List ByteArray} {v1 v2 u : Value} {xs : List Value} (h : GrS W B R0 R v1 v2) (hk : KpF B v1.ownBlock W W') (h1 : B + 1 ≤ R1) (hu : W.ownsRow R1 58 2 u n xs) : W'.ownsRow R1 58 2 u n xs :=
  own_blkG hu fun g hgb => hk.block g (hu.lt g hgb).2 (fun e => by have := (hu.lt g hgb).1; omega) (fun e => rows_apartG hu h.row T_g4 g hgb e.symm)
theorem kpF_below {n B : Nat} {row : Option Nat} {W W' : World} (h : KpF B row W W') (hB : n ≤ B) (hr : ∀ g, row = some g → n ≤ g) (hn : n ≤ W.heap.size) : Below n W W' :=
  ⟨h.os, h.tape, h.output, h.size, fun k hk => h.block k (by omega) (by omega) (fun e => by have := hr k e.symm; omega)⟩
set_option maxRecDepth 100000 in
set_option maxHeartbeats 8000000 in
theorem ciReach_any (s : ByteArray) (w : World) (hs : ringB s = true) : Calls Tryd.prog 26 #[.string s] w (RePost s w) := by
  obtain ⟨i0, hi, hz0, hz1, hz2⟩ := info_parts Tryd.infoG1
  have HI := Lib.hid hi
  have HZ0 := Lib.hid hz0
  have HZ1 := Lib.hid hz1
  have HZ2 := Lib.hid hz2
  clear hi hz0 hz1 hz2
  obtain ⟨i2, hi, hz0, hz1, hz2⟩ := info_parts Tryd.infoG2
  have HJ := Lib.hid hi
  have HY0 := Lib.hid hz0
  have HY1 := Lib.hid hz1
  have HY2 := Lib.hid hz2
  clear hi hz0 hz1 hz2
  have HS := Lib.hid hs
  have hsame := Lib.hid (same_of hs)
  obtain ⟨W1, hW1⟩ : ∃ W1, W1 = (w.alloc (.cells #[.string s] 9)).alloc (.cells #[.slice (some ⟨w.heap.size, 0, none⟩) 1 1, .slice none 0 0] 42) := ⟨_, rfl⟩
  have hz1 : W1.heap.size = w.heap.size + 2 := by rw [hW1]; simp
  have hbx : W1.heap[w.heap.size + 1]? = some (.cells #[.slice (some ⟨w.heap.size, 0, none⟩) 1 1, .slice none 0 0] 42 (0, 0)) := by
    rw [hW1]
    have e : w.heap.size + 1 = (w.alloc (.cells #[.string s] 9)).heap.size := by simp
    rw [e]
    exact heap_alloc_new _ _
  have hG0 : GrW W1 (w.heap.size + 1) w.heap.size [s] [] (.slice (some ⟨w.heap.size, 0, none⟩) 1 1) (.slice none 0 0) [] := by
    refine ⟨⟨by unfold World.cell?; rw [hbx]; rfl, by unfold World.cell?; rw [hbx]; rfl, by unfold World.frozen?; rw [hbx]; rfl, by unfold World.frozen?; rw [hbx]; rfl, by omega, (fun e => by injection e with e; have e : w.heap.size = w.heap.size + 1 := e; omega), by omega, ?_⟩, World.ownsRow_nil _ _ _ _, fun k h => by simp at h⟩
    rw [hW1]
    have h1 : (w.alloc (.cells #[.string s] 9)).ownsRow w.heap.size 9 1 (.slice (some ⟨w.heap.size, 0, none⟩) 1 1) 1 [.string s] :=
      ⟨rfl, .inr ⟨w.heap.size, 1, #[.string s], rfl, Nat.le_refl _, heap_alloc_new w _, Nat.le_refl _, by decide, rfl, rfl⟩⟩
    exact h1.alloc _
  have HG0 := Lib.hid hG0
  have HB0 : Hid (Below w.heap.size w W1) := Lib.hid (by rw [hW1]; exact ((Below.refl _ _).alloc (Nat.le_refl _) _).alloc (by simp) _)
  have HP0 := Lib.hid (GrP.start s)
  clear hbx hG0 hs hz1
  go_enter Tryd.func26, Tryd.ntmps26
  go_wp2_with fail
  rw [← hW1]
  clear hW1
  go_loopw [4] (fun q wr => ∃ (k : Nat) (R : List ByteArray) (NX : List (List Nat)) (v1 v2 : Value) (vs : List Value), k ≤ R.length ∧ q = .int .i64 k ∧ Hid (GrP s R NX k [] 0) ∧ Hid (GrW wr (w.heap.size + 1) w.heap.size R NX v1 v2 vs) ∧ Hid (Below w.heap.size w wr)) (fun q _ => 100001 - (intOf q).toNat)
  case atStart => exact ⟨0, _, _, _, _, _, Nat.zero_le _, rfl, HP0, HG0, HB0⟩
  case round =>
    obtain ⟨k, R, NX, v1, v2, vs, hk, rfl, HP, HG, HB⟩ := hrel
    obtain ⟨W, hW⟩ : ∃ W : World, W = wr := ⟨_, rfl⟩
    subst hW
    clear HG0 HB0 HP0
    have hR5 := HP.out.few HS.out
    obtain ⟨A1, cap1, rfl⟩ := own_form HG.out.gr.row
    have c0 := HG.out.gr.c0
    by_cases hlt : k < R.length
    · have i1 : (0 : Int) ≤ (k : Int) := by omega
      have i3 : (k : Int) < (R.length : Int) := by omega
      obtain ⟨u, hu⟩ : ∃ u, R[k]? = some u := ⟨_, List.getElem?_eq_getElem hlt⟩
      have hcu : ∃ g1, A1 = some ⟨g1, 0, none⟩ ∧ W.cell? ⟨g1, k, none⟩ = some (.string u) := by
        rcases HG.out.gr.row.2 with ⟨h1, h2⟩ | ⟨g, cap', _, h1, _, hg, _⟩
        · omega
        · injection h1 with h1 _ _
          subst h1
          refine ⟨g, rfl, (HG.out.gr.row.cellAt k (by omega)).trans ?_⟩
          rw [txB_at R k hlt]
          rw [List.getElem?_eq_getElem hlt] at hu
          injection hu with hu
          rw [hu]
      obtain ⟨g1, rfl, cu⟩ := hcu
      have hru : ringB u = true := by
        obtain ⟨q, hq⟩ := HP.out.got u (List.mem_of_getElem? hu)
        exact (same_run hsame.out hq).ring
      have HMV := Lib.hid (fun wx => ciMoves_any u wx hru)
      unfold SpPost at HMV
      have hMle := nxC_le hru
      have hMl : (nxC u).length = (rgTo u u.size).length := by unfold nxC; rw [List.length_map]
      have HIN : Hid (∀ i (h : i < (rgTo u u.size).length), ∃ a c : Nat, (rgTo u u.size)[i] = ((a : Int), (c : Int)) ∧ a < u.size ∧ c < u.size ∧ a ≠ c ∧ (nxC u)[i]? = some (str (putL u a c))) := Lib.hid fun i h => by
        obtain ⟨a, c, e, h1, h2, h3, _⟩ := rg_in (List.getElem_mem h)
        refine ⟨a, c, e, h1, h2, h3, ?_⟩
        unfold nxC
        rw [List.getElem?_map, List.getElem?_eq_getElem h, e]
        rfl
      have HML := Lib.hid hMl
      rw [hMl] at hMle
      have HU := Lib.hid hu
      have hus : u.size ≤ 9 := (ring_sz hru).2
      clear hMl hru hu
      generalize rgTo u u.size = M at HMV HIN HML hMle
      have HMVK := HMV
      go_wp2_with fail
      refine (HMV.out _).mono ?_
      rintro e w4 ⟨v4, rfl, ho4, hb4⟩
      obtain ⟨A4, cap4, rfl, _⟩ := at_of_own ho4
      have HG4 := Lib.hid (HG.out.below hb4)
      have HB4 := Lib.hid (HB.out.trans (hb4.mono HB.out.size))
      have HLV : Hid (∀ (k : Nat) (v : Value), vs[k]? = some v → ∀ g, v.ownBlock = some g → g < w4.heap.size) := Lib.hid fun k v hv g hg => Nat.lt_of_lt_of_le (HG.out.lts k v hv g hg).2 hb4.size
      have hR1 : w.heap.size + 1 + 1 ≤ W.heap.size := HG.out.gr.lt
      have hR2 : w.heap.size + 1 + 1 ≤ w4.heap.size := Nat.le_trans hR1 hb4.size
      have HO4 := Lib.hid ho4
      have hz4 := hb4.size
      clear ho4 hb4 c0 cu HMV HMVK HB
      go_wp2_with fail
      go_loopw [5, 30] (fun v5 q wr => ∃ (j : Nat) (R2 : List ByteArray) (I : List Nat) (v1 : Value), j ≤ M.length ∧ q = .int .i64 j ∧ Hid (GrP s R2 NX k I j) ∧ k < R2.length ∧ Hid (R2[k]? = some u) ∧ Hid (GrW wr (w.heap.size + 1) w.heap.size R2 NX v1 v2 vs) ∧ Hid (wr.ownsRow w4.heap.size 3 1 v5 I.length (itN I)) ∧ Hid (wr.ownsRow W.heap.size 58 2 (.slice A4 M.length cap4) M.length (flat M)) ∧ Hid (w4.heap.size ≤ wr.heap.size) ∧ Hid (Below w.heap.size w wr)) (fun _ q _ => M.length - (intOf q).toNat)
      case atStart => exact ⟨0, R, [], _, Nat.zero_le _, rfl, HP, hlt, HU, HG4, Lib.hid (World.ownsRow_nil _ _ _ _), HO4, Lib.hid (Nat.le_refl _), HB4⟩
      case round =>
        clear HG4 HO4 HB4 HU HG HP hlt i3 hk hR5
        obtain ⟨j, R2, I, v1, hj, rfl, HP, hlt, HU, HG, HOI, HOM, HB4s, HB⟩ := hrel
        obtain ⟨U, hU⟩ : ∃ U : World, U = wr := ⟨_, rfl⟩
        subst hU
        have hR5 := HP.out.few HS.out
        have hil0 : I.length ≤ 1000 := by have := HP.out.il; omega
        obtain ⟨A1, cap1, rfl⟩ := own_form HG.out.gr.row
        by_cases hltj : j < M.length
        · have j1 : (0 : Int) ≤ (j : Int) := by omega
          have j2 : (j : Int) < (M.length : Int) := by omega
          have i3 : (k : Int) < (R2.length : Int) := by omega
          obtain ⟨gm, rfl, zg, p0, p1⟩ := (at_ownG HOM.out) j hltj
          obtain ⟨a, c, hac, ha, hc, hne, hy⟩ := HIN.out j hltj
          rw [hac] at p0 p1
          have hcu : ∃ g1, A1 = some ⟨g1, 0, none⟩ ∧ g1 < U.heap.size ∧ U.cell? ⟨g1, k, none⟩ = some (.string u) := by
            rcases HG.out.gr.row.2 with ⟨h1, h2⟩ | ⟨g, cap', _, h1, _, hg, _⟩
            · omega
            · injection h1 with h1 _ _
              subst h1
              refine ⟨g, rfl, (Array.getElem?_eq_some_iff.1 hg).1, (HG.out.gr.row.cellAt k (by omega)).trans ?_⟩
              rw [txB_at R2 k hlt]
              have hu := HU.out
              rw [List.getElem?_eq_getElem hlt] at hu
              injection hu with hu
              rw [hu]
          obtain ⟨g1, rfl, zg1, cu⟩ := hcu
          have HMK := Lib.hid (fun wx => liMake_any u a c wx (by omega) ha hc hne)
          have HYX := Lib.hid hy
          have HFND : Hid (∀ (R' : List ByteArray) (i : Nat), ((str (putL u a c) ∈ R2 ∧ R' = R2) ∨ (str (putL u a c) ∉ R2 ∧ R' = R2 ++ [str (putL u a c)])) → R'[i]? = some (str (putL u a c)) → GrP s R' NX k (I ++ [i]) (j + 1) ∧ R'[k]? = some u ∧ k < R'.length) := Lib.hid fun R' i h1 h2 => HP.out.find hlt HU.out hy h1 h2
          generalize str (putL u a c) = y at HMK HYX HFND
          have c0 := HG.out.gr.c0
          have zB := HG.out.gr.lt
          clear hac ha hc hne hy
          go_upto_region 9 with fail
          obtain ⟨V1, hV1⟩ : ∃ V1, V1 = U.alloc (Obj.cells #[Value.int IntKind.i64 ↑a, Value.int IntKind.i64 ↑c] 58) := ⟨_, rfl⟩
          have hbv : Below U.heap.size U V1 := by rw [hV1]; exact (Below.refl _ _).alloc (Nat.le_refl _) _
          have hzv : V1.heap.size = U.heap.size + 1 := by rw [hV1]; simp
          have r0 : V1.cell? ⟨U.heap.size, 0, none⟩ = some (.int .i64 (a : Int)) := by rw [hV1, World.cell?_alloc_new]; rfl
          have r1 : V1.cell? ⟨U.heap.size, 1, none⟩ = some (.int .i64 (c : Int)) := by rw [hV1, World.cell?_alloc_new]; rfl
          have r2 := (hbv.cell (p := ⟨w.heap.size + 1, 0, none⟩) zB).trans c0
          have r3 := (hbv.cell (p := ⟨g1, k, none⟩) zg1).trans cu
          have HGX : Hid (∀ wx, Below V1.heap.size V1 wx → GrW wx (w.heap.size + 1) w.heap.size R2 NX (.slice (some ⟨g1, 0, none⟩) R2.length cap1) v2 vs) := Lib.hid fun wx hb => (HG.out.below hbv).below hb
          have HOX : Hid (∀ wx, Below V1.heap.size V1 wx → wx.ownsRow w4.heap.size 3 1 u5 I.length (itN I)) := Lib.hid fun wx hb => own_below (own_below HOI.out hbv) hb
          have HMX : Hid (∀ wx, Below V1.heap.size V1 wx → wx.ownsRow W.heap.size 58 2 (.slice (some ⟨gm, 0, none⟩) M.length cap4) M.length (flat M)) := Lib.hid fun wx hb => own_below (own_below HOM.out hbv) hb
          have HBX : Hid (Below w.heap.size w V1) := Lib.hid (HB.out.trans (hbv.mono HB.out.size))
          have H3 : I.length + 1 ≤ maxLen := by unfold maxLen; omega
          have H4 : (I.length + 1) * 8 ≤ 140737488355328 := by omega
          have HZ4 : Hid (∀ wb : World, ∀ {wx : World}, wx.heap.size ≤ wb.heap.size → V1.heap.size ≤ wx.heap.size → w4.heap.size ≤ wb.heap.size) := Lib.hid fun wb wx h1 h2 => by have := HB4s.out; omega
          rw [← hV1]
          clear hV1 hbv hzv p0 p1 c0 cu HG HOI HOM HB
          go_region_law (first
            | (go_simp; go_at_call 42; refine (HMK.out _).mono ?_; rintro e wa ⟨rfl, hba⟩; have hB : Below V1.heap.size V1 wa := Below.trans (by repeat first | with_reducible exact hB | with_reducible exact Below.refl _ _ | with_reducible refine Below.drew ?_) (hba.mono (Below.size (B := V1.heap.size) (w := V1) (by repeat first | with_reducible exact hB | with_reducible exact Below.refl _ _ | with_reducible refine Below.drew ?_))); clear hba)
            | (go_simp; go_at_call 41; refine (find_any (w.heap.size + 1) w.heap.size R2 (.slice (some ⟨g1, 0, none⟩) R2.length cap1) v2 y _ (HGX.out _ (by repeat first | with_reducible exact hB | with_reducible exact Below.refl _ _ | with_reducible refine Below.drew ?_)).gr hR5).mono ?_; rintro e wb ⟨R', i, v1', hR', hi', rfl, hgs, hkp, hnew⟩; have OI := cur_find (HGX.out _ (by repeat first | with_reducible exact hB | with_reducible exact Below.refl _ _ | with_reducible refine Below.drew ?_)).gr hkp hR2 (HOX.out _ (by repeat first | with_reducible exact hB | with_reducible exact Below.refl _ _ | with_reducible refine Below.drew ?_)); have OM := mv_find (HGX.out _ (by repeat first | with_reducible exact hB | with_reducible exact Below.refl _ _ | with_reducible refine Below.drew ?_)).gr hkp hR1 (HMX.out _ (by repeat first | with_reducible exact hB | with_reducible exact Below.refl _ _ | with_reducible refine Below.drew ?_)); have OG := (HGX.out _ (by repeat first | with_reducible exact hB | with_reducible exact Below.refl _ _ | with_reducible refine Below.drew ?_)).find hgs hkp; have OB : Below w.heap.size w wb := (HBX.out.trans ((Below.mono (by repeat first | with_reducible exact hB | with_reducible exact Below.refl _ _ | with_reducible refine Below.drew ?_) HBX.out.size))).trans (kpF_below hkp (by omega) (fun g hg => ((HGX.out _ (by repeat first | with_reducible exact hB | with_reducible exact Below.refl _ _ | with_reducible refine Below.drew ?_)).gr.row.lt g hg).1) (Nat.le_trans HBX.out.size (Below.size (B := V1.heap.size) (w := V1) (by repeat first | with_reducible exact hB | with_reducible exact Below.refl _ _ | with_reducible refine Below.drew ?_)))); have OS : w4.heap.size ≤ wb.heap.size := HZ4.out wb hkp.size (Below.size (B := V1.heap.size) (w := V1) (by repeat first | with_reducible exact hB | with_reducible exact Below.refl _ _ | with_reducible refine Below.drew ?_)); clear hgs hkp hnew)
            | (refine step_append_lies _ rfl _ _ 54 rfl w4.heap.size 3 i0 (.int .i64 0) 1 8 Tryd.underlying54 HI.out HZ0.out HZ1.out HZ2.out rfl (by decide) _ I.length _ rfl (show (wb.alloc (Obj.cells #[.int .i64 ((i : Nat) : Int)] 3)).ownsRow w4.heap.size 3 1 _ I.length (itN I) from OI.alloc _) ⟨wb.heap.size, 0, none⟩ 1 1 [.int .i64 ((i : Nat) : Int)] rfl rfl (fun j u h => cell_one_atF wb wb.heap.size rfl (.int .i64 ((i : Nat) : Int)) 3 j u h) (fun u hu => by simp at hu; subst hu; rfl) (by decide) H3 H4 (by simp; omega) _ rfl ?_; intro g2 c2 w8 hrow8 hg8 hat8 hlt8))
          all_goals
            obtain ⟨hP2, hU2, hl2⟩ := HFND.out R' i hR' hi'
            have HP2 := Lib.hid hP2
            have HU2 := Lib.hid hU2
            have OIA := OI.alloc (Obj.cells #[.int .i64 ((i : Nat) : Int)] 3)
            have OMA := OM.alloc (Obj.cells #[.int .i64 ((i : Nat) : Int)] 3)
            have hs8 := hg8.size
            have hg8' : (wb.alloc (Obj.cells #[.int .i64 ((i : Nat) : Int)] 3)).grownBy w8 (Value.ownBlock u5) := hg8
            have HG8 := Lib.hid ((OG.below ((Below.refl _ _).alloc (Nat.le_refl _) (Obj.cells #[.int .i64 ((i : Nat) : Int)] 3))).grow OIA hR2 HLV.out hg8')
            have HOI8 : Hid (w8.ownsRow w4.heap.size 3 1 (.slice (some ⟨g2, 0, none⟩) (I.length + 1) c2) (I ++ [i]).length (itN (I ++ [i]))) := Lib.hid (by
              rw [show itN (I ++ [i]) = itN I ++ [.int .i64 ((i : Nat) : Int)] by simp [itN], List.length_append]
              exact hrow8)
            have HOM8 := Lib.hid (own_blkG OMA (fun g hg => hg8'.block g (OMA.lt g hg).2 (fun e => rows_apartG OMA OIA T_g5 g hg e.symm)))
            have HB8 := Lib.hid ((OB.alloc OB.size (Obj.cells #[.int .i64 ((i : Nat) : Int)] 3)).grown hg8' (by have := OB.size; simp; omega) (fun g e => by have := (OIA.lt g e).1; omega))
            have HS8 : Hid (w4.heap.size ≤ w8.heap.size) := Lib.hid (by simp at hs8; omega)
            clear hP2 hU2 OIA OMA hs8 hg8 hg8' hrow8 hat8 OI OM OG OB OS hR' hi' r0 r1 r2 r3
            go_wp2_with fail
            go_roundw
            case rel => exact ⟨j + 1, R', I ++ [i], v1', by omega, by go_num, HP2, hl2, HU2, HG8, HOI8, HOM8, HS8, HB8⟩
            case measure => simp [intOf]; omega
        · obtain rfl : j = M.length := by omega
          have HPR := Lib.hid (HP.out.row HU.out HML.out.symm)
          obtain ⟨A2, cap2, rfl⟩ := own_form HG.out.row
          obtain ⟨A5, cap5, rfl⟩ := own_form HOI.out
          have c1 := HG.out.gr.c1
          have f1 := HG.out.gr.f1
          have zB := HG.out.gr.lt
          have hnl0 : NX.length ≤ 100000 := by have := HP.out.len; omega
          have H1 : ∀ x ∈ [Value.slice A5 I.length cap5], x.oneCell' = true := fun x hx => by simp at hx; subst hx; rfl
          have H3 : NX.length + 1 ≤ maxLen := by unfold maxLen; omega
          have H4 : (NX.length + 1) * 24 ≤ 140737488355328 := by omega
          have H5 : w.heap.size + 1 + 1 ≤ (U.alloc (Obj.cells #[.slice A5 I.length cap5] 54)).heap.size := by simp; omega
          have HRA := Lib.hid (HG.out.row.alloc (Obj.cells #[.slice A5 I.length cap5] 54))
          go_wp2_with (first | (at_builtin; refine wpList_append_own _ rfl _ _ 40 rfl (w.heap.size + 1 + 1) 54 i2 (.slice none 0 0) 1 24 Tryd.underlying40 HJ.out HY0.out HY1.out HY2.out rfl (by decide) _ _ _ rfl HRA.out ⟨U.heap.size, 0, none⟩ 1 1 [.slice A5 I.length cap5] rfl rfl (cell_one_atF _ _ rfl _ _) H1 H3 H4 H5 ?_; intro v' w6 hown' hgrow _; obtain ⟨A6, cap6, rfl⟩ := own_form hown'; have hb6 : w6.heap[w.heap.size + 1]? = U.heap[w.heap.size + 1]? := (hgrow.block _ (by simp; omega) (fun e => by have := (HRA.out.lt _ e.symm).1; omega)).trans (Below.heap_alloc _ _ _ zB); have c16 := (World.cell?_of_block (a := ⟨w.heap.size + 1, 1, none⟩) hb6).trans c1; have f16 := frz_block hb6 f1))
          have hgrow' : (U.alloc (Obj.cells #[.slice A5 I.length cap5] 54)).grownBy w6 (Value.ownBlock (.slice A2 NX.length cap2)) := hgrow
          have HGE := Lib.hid ((HG.out.below ((Below.refl _ _).alloc (Nat.le_refl _) (Obj.cells #[.slice A5 I.length cap5] 54))).more (HOI.out.alloc _) hR2 hgrow' hown')
          have HBE := Lib.hid (((HB.out.alloc HB.out.size (Obj.cells #[.slice A5 I.length cap5] 54)).grown hgrow' (by have := HB.out.size; simp; omega) (fun g e => by have := (HRA.out.lt g e).1; omega)).setCell (p := ⟨w.heap.size + 1, 1, none⟩) (Nat.le_succ w.heap.size) (.slice A6 (NX.length + 1) cap6))
          clear hown' hgrow hgrow' hb6 c16 f16 c1 f1
          go_roundw
          case rel => exact ⟨k + 1, R2, NX ++ [I], _, .slice A6 (NX.length + 1) cap6, vs ++ [.slice A5 I.length cap5], by omega, by go_num, HPR, HGE, HBE⟩
          case measure => simp [intOf]; omega
    · obtain rfl : k = R.length := by omega
      have HOK := Lib.hid (HP.out.fin rfl)
      have i3 : ¬ ((R.length : Int) < (R.length : Int)) := by omega
      go_wp2_with fail
      go_ret
      exact ⟨_, R, NX, rfl, HG.out.mem, HOK.out, hR5, HB.out⟩
end Go.Proofs.YtdcbjbmnkajjcaaDoor
