/- Contracts: the best moves: the model's. -/
import Derived.Test.YtflpncdnneapmaaBmC
import Derived.Deep.LoopGhost
import Derived.Deep.Cut
namespace Go.Proofs.Ytflpncdnneapmaa
open Go.RowKit Go.Maps Go.Shelf

section
variable {W W' : World} {B L b m : Nat} {ks : List (List UInt8)} {bs : List Bool} {vs vw v : Value} {xs : List Value}
/-- A row of moves is no memory of the box. -/
theorem KnM.apartM (h : KnM W B L ks bs vs vw) (hr : W.ownsRow b 31 2 v m xs) : ∀ g, v.ownBlock = some g → ¬ Ex B W g := by
  intro g hg he
  rcases (box_ex h.box g).1 he with rfl | h1 | h1
  · rcases hr.2 with ⟨hv, _⟩ | ⟨g', cap, cur, rfl, _, hc, _⟩
    · subst hv; cases hg
    · injection hg with hg
      have hg : g' = g := hg
      subst hg
      rw [h.box] at hc
      injection hc with hc
      injection hc with _ hc _
      exact absurd hc (by decide)
  · rcases own_apart hr h.row1 (by decide) with h2 | h2
    · rw [hg] at h2; cases h2
    · exact h2 (hg.trans h1.symm)
  · rcases own_apart hr h.row2 (by decide) with h2 | h2
    · rw [hg] at h2; cases h2
    · exact h2 (hg.trans h1.symm)
theorem KnM.grownM (h : KnM W B L ks bs vs vw) (hr : W.ownsRow b 31 2 v m xs) (hg : W.grownBy W' v.ownBlock) : KnM W' B L ks bs vs vw := by
  have ha := h.apartM hr
  have h1 : some B ≠ v.ownBlock := fun e => ha B e.symm (.inl rfl)
  refine ⟨(hg.block B h.lt h1).trans h.box, h.row1.kept hg ?_, h.row2.kept hg ?_, h.len, h.val, h.nodup, h.sig⟩
  · rcases own_apart h.row1 hr (by decide) with h2 | h2
    · exact .inl h2
    · exact .inr h2
  · rcases own_apart h.row2 hr (by decide) with h2 | h2
    · exact .inl h2
    · exact .inr h2
theorem KnM.own_kpx (h : KnM W B L ks bs vs vw) (hr : W.ownsRow b 31 2 v m xs) (hk : KpX B W W') : W'.ownsRow b 31 2 v m xs := by
  have ha := h.apartM hr
  refine ⟨hr.1, ?_⟩
  rcases hr.2 with h2 | ⟨g, cap, cur, rfl, hb, hg, r⟩
  · exact .inl h2
  · exact .inr ⟨g, cap, cur, rfl, hb, (hk.keep g (Array.getElem?_eq_some_iff.1 hg).1 (ha g rfl)).trans hg, r⟩
end
/-- What is known, and the moves made. -/
structure OgW (W : World) (B L b : Nat) (F : List (Int × Int)) (v : Value) : Prop where
  kn : ∃ ks, KnW W B L ks
  row : W.ownsRow b 31 2 v F.length (flat F)
section
variable {W W' : World} {B L b : Nat} {F G : List (Int × Int)} {v v' : Value}
theorem KnW.lt {ks : List (List UInt8)} (h : KnW W B L ks) : B < W.heap.size := by
  obtain ⟨_, _, _, h⟩ := h
  exact h.lt
theorem OgW.lt (h : OgW W B L b F v) : B < W.heap.size := by
  obtain ⟨ks, hk⟩ := h.kn
  exact hk.lt
theorem OgW.below (h : OgW W B L b F v) (hb : Below W.heap.size W W') : OgW W' B L b F v := by
  obtain ⟨ks, hk⟩ := h.kn
  exact ⟨⟨ks, hk.below hb⟩, own_below h.row hb⟩
theorem OgW.kp (h : OgW W B L b F v) (hk : KpX B W W') (hn : ∃ ks', KnW W' B L ks') : OgW W' B L b F v := by
  obtain ⟨ks, bs, vs, vw, hm⟩ := h.kn
  exact ⟨hn, hm.own_kpx h.row hk⟩
theorem OgW.more (h : OgW W B L b F v) (hg : W.grownBy W' v.ownBlock) (hr : W'.ownsRow b 31 2 v' G.length (flat G)) : OgW W' B L b G v' := by
  obtain ⟨ks, bs, vs, vw, hm⟩ := h.kn
  exact ⟨⟨ks, bs, vs, vw, hm.grownM h.row hg⟩, hr⟩
/-- A row that is not older than W0 grows: what of W0 is no memory of the box stays. -/
theorem OgW.kpGrown {W0 : World} (h : OgW W B L b F v) (hb : W0.heap.size ≤ b) (h0 : KpX B W0 W) (hg : W.grownBy W' v.ownBlock) : KpX B W0 W' := by
  obtain ⟨ks, bs, vs, vw, hm⟩ := h.kn
  have hne : ∀ k, k < W0.heap.size → some k ≠ v.ownBlock := fun k hk e => by have := (h.row.lt k e.symm).1; omega
  have hbx := hm.grownM h.row hg
  refine ⟨hg.os.trans h0.os, hg.tape.trans h0.tape, hg.output.trans h0.output, Nat.le_trans h0.size hg.size, fun k hk hn => (hg.block k (Nat.lt_of_lt_of_le hk h0.size) (hne k hk)).trans (h0.keep k hk hn), fun k hk he => h0.ex k hk ((box_ex hm.box k).2 ((box_ex hbx.box k).1 he))⟩
end
theorem keepG_zero {α : Type} (p : Nat → Bool) (l : List α) : keepG p l 0 = [] := rfl
set_option maxRecDepth 100000 in
set_option maxHeartbeats 8000000 in
theorem gaBest_any (B : Nat) (s : List UInt8) (tm : Bool) (W0 : World) (hf : fewB (str s) = true) (hK : ∃ ks, KnW W0 B s.length ks) :
    Calls Try.prog 36 #[.pointer (some ⟨B, 0, none⟩), .string (str s), .bool tm] W0 fun e w' => ∃ v, e = .returned v ∧ OgW w' B s.length W0.heap.size (bestM tm s) v ∧ KpX B W0 w' := by
  obtain ⟨i0, hi, hz0, hz1, hz2⟩ := info_parts Try.infoM
  have HI := Lib.hid hi
  have HZ0 := Lib.hid hz0
  have HZ1 := Lib.hid hz1
  have HZ2 := Lib.hid hz2
  clear hi hz0 hz1 hz2
  have hgd : goodL (str s) = true := by unfold fewB at hf; rw [Bool.and_eq_true] at hf; exact hf.1
  have hl := (few_sig hf).1
  have HG : Hid (SumG s.length [s]) := Lib.hid (sumOk_sum (ls := [s]) (by rw [sumOk_one]; exact hf))
  have HM := Lib.hid (fun wx => liMoves_kd tm s wx hgd)
  have HAT := Lib.hid (fun j (h : j < (gmM tm s).length) => gm_at j h)
  have HLW := Lib.hid (fun j (h : j < (gmM tm s).length) => loW_at h)
  have HKN := Lib.hid (fun j (h : j < (gmM tm s).length) => keepG_next (loW tm s) (gmM tm s) j h)
  have HKL := Lib.hid (fun j => keepG_le (loW tm s) (gmM tm s) j)
  have hml := gmM_le tm s
  have HK0 := Lib.hid hK
  have HBM : Hid (bestM tm s = keepG (loW tm s) (gmM tm s) (gmM tm s).length) := Lib.hid rfl
  rw [HBM.out]
  clear hK hf HBM
  have hls : (str s).size ≤ 1000 := by rw [str_size]; omega
  generalize gmM tm s = M at *
  go_enter Try.func36, Try.ntmps36
  go_wp2_with fail
  refine (HM.out _).mono ?_
  rintro e w2 ⟨v2, rfl, ho2, hb2⟩
  obtain ⟨A2, cap2, rfl, at2⟩ := at_of_own ho2
  have HX2 : Hid (∀ a, A2 = some a → W0.heap.size ≤ a.block) := Lib.hid fun a e => by
    subst e
    exact (ho2.lt _ rfl).1
  have hB0 : B < W0.heap.size := by obtain ⟨ks, hk⟩ := HK0.out; exact hk.lt
  have HNX : Hid (∀ a, A2 = some a → ¬ Ex B w2 a.block) := Lib.hid fun a e he => by
    obtain ⟨ks, bs, vs, vw, hk⟩ := HK0.out
    have h1 := hk.ex_old hb2 he
    have h2 := HX2.out a e
    omega
  have HO2 : Hid (OgW w2 B s.length w2.heap.size (keepG (loW tm s) M 0) (.slice none 0 0)) := Lib.hid ⟨by
    obtain ⟨ks, hk⟩ := HK0.out
    exact ⟨ks, hk.below hb2⟩, by rw [keepG_zero]; exact World.ownsRow_nil _ _ _ _⟩
  have HK2 : Hid (KpX B W0 w2) := Lib.hid (KpX.below hB0 hb2)
  have AT2 := Lib.hid at2
  have hz2 := hb2.size
  clear ho2 hb2 at2 HK0 HM HX2
  go_wp2_with fail
  go_loopw [7, 16] (fun v i wr => ∃ k : Nat, k ≤ M.length ∧ i = .int .i64 k ∧ Hid (OgW wr B s.length w2.heap.size (keepG (loW tm s) M k) v) ∧ Hid (KpX B w2 wr) ∧ Hid (KpX B W0 wr)) (fun _ i _ => M.length - (intOf i).toNat)
  case atStart => exact ⟨0, Nat.zero_le _, rfl, HO2, Lib.hid (KpX.refl _ _), HK2⟩
  case round =>
    obtain ⟨k, hk, rfl, HO, HKJ, HKW⟩ := hrel
    obtain ⟨V, hV⟩ : ∃ V : World, V = wr := ⟨_, rfl⟩
    subst hV
    clear HO2 HK2
    by_cases hlt : k < M.length
    · have hcells := fun (wx : World) (hk : KpX B w2 wx) => (AT2.out.kp hk HNX.out) k hlt
      obtain ⟨a, b, e1, e2, hai, hbi, hneab, hyx, hyb⟩ := HAT.out k hlt
      have hlw := HLW.out k hlt
      have HST := Lib.hid (HKN.out k hlt)
      have hkl := HKL.out k
      rw [show M[k] = ((a : Int), (b : Int)) from Prod.ext e1 e2] at hcells HST
      rw [← hyb] at hlw
      have hsy : SumG s.length [putL (str s) a b] := HG.out.set (k := 0) (by simp) hyx
      have HMK := Lib.hid (fun wx => liMake_any (str s) a b wx hls (by rw [str_size]; exact hai) (by rw [str_size]; exact hbi) hneab)
      generalize putL (str s) a b = y at HMK hsy hlw
      have HWN := Lib.hid (fun W ks A hA hx hK => win_below B s.length (!tm) [y] A 1 W ks hsy hA hx hK)
      have HCE := Lib.hid hcells
      obtain ⟨gm, rfl, zz, p1, q1⟩ := hcells V HKJ.out
      have j1 : (0 : Int) ≤ (k : Int) := by omega
      have j2 : (k : Int) < (M.length : Int) := by omega
      have hbm : B < V.heap.size := HO.out.lt
      clear e1 e2 hyx hyb hsy hneab hcells
      go_upto_region 5 with fail
      generalize hV1 : V.alloc (Obj.cells #[Value.int IntKind.i64 ↑a, Value.int IntKind.i64 ↑b] 31) = V1
      have hbv : Below V.heap.size V V1 := by rw [← hV1]; exact (Below.refl _ _).alloc (Nat.le_refl _) _
      have r0 : V1.cell? ⟨V.heap.size, 0, none⟩ = some (.int .i64 a) := by rw [← hV1, World.cell?_alloc_new]; rfl
      have r1 : V1.cell? ⟨V.heap.size, 1, none⟩ = some (.int .i64 b) := by rw [← hV1, World.cell?_alloc_new]; rfl
      have hzv1 : V.heap.size < V1.heap.size := by rw [← hV1]; simp
      have HO3 := Lib.hid (HO.out.below hbv)
      have HJ3 := Lib.hid (HKJ.out.trans (KpX.below hbm hbv))
      have HW3 := Lib.hid (HKW.out.trans (KpX.below hbm hbv))
      have HNB : Hid (∀ ks, KnW V B s.length ks → ∀ x : World, Below V.heap.size V x → ¬ Ex B x V.heap.size) := Lib.hid (fun ks hk x hb he => by
        obtain ⟨bs, vs, vw, hk⟩ := hk
        have := hk.ex_old hb he
        omega)
      have HKV := Lib.hid HO.out.kn
      clear hV1 p1 q1
      go_wp2_with fail
      refine (HMK.out _).mono ?_
      rintro e w3 ⟨rfl, hb3⟩
      have s0 := (hb3.cell (p := ⟨V.heap.size, 0, none⟩) hzv1).trans r0
      have s1 := (hb3.cell (p := ⟨V.heap.size, 1, none⟩) hzv1).trans r1
      have HBV3 := Lib.hid (hbv.trans (hb3.mono (Nat.le_of_lt hzv1)))
      have HO4 := Lib.hid (HO3.out.below hb3)
      have HJ4 := Lib.hid (HJ3.out.trans (KpX.below HO3.out.lt hb3))
      have HW4 := Lib.hid (HW3.out.trans (KpX.below HO3.out.lt hb3))
      have hz3 := hb3.size
      clear hb3 r0 r1 HO3 HJ3 HW3 hbv
      go_wp2_with fail
      have hbal : Below w3.heap.size w3 (w3.alloc (Obj.cells #[.string (str y)] 9)) := (Below.refl _ _).alloc (Nat.le_refl _) _
      have HBV4 : Hid (Below V.heap.size V (w3.alloc (Obj.cells #[.string (str y)] 9))) := Lib.hid (HBV3.out.alloc (by omega) _)
      have s2 : (w3.alloc (Obj.cells #[.string (str y)] 9)).cell? ⟨V.heap.size, 0, none⟩ = some (.int .i64 a) := (cell_old _ _ _ _ (by omega)).trans s0
      have s3 : (w3.alloc (Obj.cells #[.string (str y)] 9)).cell? ⟨V.heap.size, 1, none⟩ = some (.int .i64 b) := (cell_old _ _ _ _ (by omega)).trans s1
      have HO5 := Lib.hid (HO4.out.below hbal)
      have HJ5 := Lib.hid (HJ4.out.trans (KpX.below HO4.out.lt hbal))
      have HW5 := Lib.hid (HW4.out.trans (KpX.below HO4.out.lt hbal))
      obtain ⟨ks4, hk4⟩ := HO4.out.kn
      obtain ⟨ksV, hkV⟩ := HKV.out
      have hnb := HNB.out ksV hkV _ HBV4.out
      refine (HWN.out _ ks4 (some ⟨w3.heap.size, 0, none⟩) (one_slice w3 y) (fun ad e he => by
        injection e with e
        subst e
        obtain ⟨bs, vs, vw, hk⟩ := hk4
        have := hk.ex_old hbal he
        simp at this) (hk4.below hbal)).mono ?_
      rintro e w5 ⟨rfl, hk5, hkp5, _⟩
      rw [show Wn (!tm) (joinG [y]) = loW tm s k from hlw.symm]
      have hz4 : V.heap.size < (w3.alloc (Obj.cells #[.string (str y)] 9)).heap.size := by simp; omega
      have t0 := (World.cell?_of_block (a := ⟨V.heap.size, 0, none⟩) (hkp5.keep V.heap.size hz4 hnb)).trans s2
      have t1 := (World.cell?_of_block (a := ⟨V.heap.size, 1, none⟩) (hkp5.keep V.heap.size hz4 hnb)).trans s3
      have HO6 := Lib.hid (HO5.out.kp hkp5 hk5)
      have HJ6 := Lib.hid (HJ5.out.trans hkp5)
      have HW6 := Lib.hid (HW5.out.trans hkp5)
      have hz5 := HJ6.out.size
      clear s0 s1 s2 s3 hbal HBV4 HBV3 HO4 HJ4 HW4 HO5 HJ5 HW5 hk4 hkV hnb HNB HKV hkp5 hk5 hlw HO HKJ HKW
      cases hq : loW tm s k
      · rw [hq, if_neg (by decide)] at HST
        have hlo : (keepG (loW tm s) M k).length ≤ 12 := by omega
        have HKEE : Hid (keepG (loW tm s) M (k + 1) = keepG (loW tm s) M k ++ [((a : Int), (b : Int))]) := Lib.hid HST.out
        clear hq HST
        generalize keepG (loW tm s) M k = F at *
        have H1 : ∀ u ∈ [Value.int .i64 (a : Int), Value.int .i64 (b : Int)], u.oneCell' = true := fun u hu => by simp at hu; rcases hu with rfl | rfl <;> rfl
        have H3 : F.length + 1 ≤ maxLen := by unfold maxLen; omega
        have H4 : (F.length + 1) * 16 ≤ 140737488355328 := by omega
        have hbal : Below w5.heap.size w5 (w5.alloc (Obj.cells #[.int .i64 a, .int .i64 b] 31)) := (Below.refl _ _).alloc (Nat.le_refl _) _
        have HO7 := Lib.hid (HO6.out.below hbal)
        have HJ7 := Lib.hid (HJ6.out.trans (KpX.below HO6.out.lt hbal))
        have HW7 := Lib.hid (HW6.out.trans (KpX.below HO6.out.lt hbal))
        have hz7 : w2.heap.size ≤ (w5.alloc (Obj.cells #[.int .i64 a, .int .i64 b] 31)).heap.size := by simp; omega
        clear hbal HO6 HJ6 HW6
        go_wp2_with (first | (at_builtin; refine wpList_append_st _ rfl _ _ 22 rfl w2.heap.size 31 i0 (.agg #[.int .i64 0, .int .i64 0]) 2 16 Try.underlying22 HI.out HZ0.out HZ1.out HZ2.out rfl (by decide) _ _ _ rfl HO7.out.row (some ⟨w5.heap.size, 0, none⟩) 1 1 [Value.int .i64 (a : Int), Value.int .i64 (b : Int)] rfl (fun e => by cases e) rfl (fun ad e j' u h => by injection e with e; subst e; exact cell_two_new w5 _ _ 31 j' u h) H1 H3 H4 hz7 ?_; intro v8 w8 hown8 hg8))
        go_roundw
        case rel =>
          refine ⟨k + 1, by omega, by go_num, Lib.hid (HO7.out.more hg8 ?_), Lib.hid (HO7.out.kpGrown (Nat.le_refl _) HJ7.out hg8), Lib.hid (HO7.out.kpGrown hz2 HW7.out hg8)⟩
          rw [HKEE.out, List.length_append, flat_app]
          exact hown8
        case measure => simp [intOf]; omega
      · rw [hq, if_pos rfl, List.append_nil] at HST
        clear hq
        go_wp2
        go_roundw
        case rel => exact ⟨k + 1, by omega, by go_num, by rw [HST.out]; exact HO6, HJ6, HW6⟩
        case measure => simp [intOf]; omega
    · obtain rfl : k = M.length := by omega
      go_wp2
      go_ret
      exact ⟨_, rfl, ⟨HO.out.kn, own_lowerD HO.out.row hz2⟩, HKW.out⟩
end Go.Proofs.Ytflpncdnneapmaa
