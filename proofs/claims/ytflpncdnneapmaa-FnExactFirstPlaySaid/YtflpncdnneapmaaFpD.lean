/- FirstPlay: the program's side. -/
import Derived.Test.YtflpncdnneapmaaFpC
import Derived.Test.YtflpncdnneapmaaBack
import Derived.ScopeJumps
import Derived.WalkMore
namespace Go.Proofs.Ytflpncdnneapmaa
open Go.RowKit Go.Maps

theorem grown_of_belowF {w w' : World} (h : Below w.heap.size w w') : w.grownBy w' none := ⟨h.os, h.tape, h.output, h.size, fun j hj _ => h.block j hj⟩
def slLenF : Value → Nat
  | .slice _ n _ => n
  | _ => 0
theorem own_len {W : World} {b n : Nat} {e : TypeId} {m : Nat} {v : Value} {xs : List Value} (h : W.ownsRow b e m v n xs) : slLenF v = n := by
  rcases h.2 with ⟨rfl, h0⟩ | ⟨g, cap, cur, rfl, _⟩
  · exact h0.symm
  · rfl
theorem map_row_apart {P : Program} {W : World} {ba n k b m : Nat} {kt e : TypeId} {R : Value → Option (DataW Unit × List MemPlace)} {D : DataW Unit} {v : Value} {xs : List Value} (h : W.ownsMap P kt R ba n D) (hr : W.ownsRow b e m v k xs) : some ba ≠ v.ownBlock := by
  intro e2
  obtain ⟨es, clock, hb, _⟩ := h
  rcases hr.2 with ⟨rfl, _⟩ | ⟨g, cap, cur, rfl, _, hg, _⟩
  · cases e2
  · injection e2 with e2
    have e2 : ba = g := e2
    subst e2
    rw [hb] at hg
    cases hg
theorem jump_retF {l : Nat} {J : Act → World → Prop} {Q : Exit → Act → World → Prop} {a : Act} {w : World} (h : Q .ret a w) : Exit.jump l J Q .ret a w := h
theorem arrD_injF {a b c e : Int} (h : arrD a b = arrD c e) : a = c ∧ b = e := by
  unfold arrD at h
  simpa using h
/-- Where the play stands at the label. -/
def FpW (wl vt : List UInt8) (D : DataW Unit) (w : World) (ba : Nat) (ut : List UInt8) (l : List (Int × Int)) (v : Value) (W : World) : Prop :=
  Fp vt wl l ut ∧ W.ownsRow w.heap.size 31 2 v l.length (flat l) ∧ W.ownsMap Try.prog 9 arrR ba 59049 D ∧ Below w.heap.size w W
def FpJ (wl vt : List UInt8) (d : Nat) (w : World) (ba : Nat) (ut : List UInt8) (l : List (Int × Int)) (v : Value) (W : World) : Prop := ∃ D, FpW wl vt D w ba ut l v W ∧ AllV nxL vt.reverse D d []
theorem reach_rev {l : List UInt8} (h : reachB (str l) = true) : reachB (str l.reverse) = true := by
  unfold reachB at h ⊢
  rw [Bool.and_eq_true] at h ⊢
  obtain ⟨h1, h2, h3⟩ := (goodL_iff _).1 h.1
  rw [byt_str] at h3
  refine ⟨(goodL_iff _).2 ⟨?_, ?_, ?_⟩, ?_⟩
  · rw [str_size, List.length_reverse, ← str_size]; exact h1
  · rw [str_size, List.length_reverse, ← str_size]; exact h2
  · rw [byt_str, List.all_reverse]; exact h3
  · rw [str_size, List.length_reverse, ← str_size]; exact h.2
/-- What the map of the lines told backwards tells. -/
theorem fp_look {vt : List UInt8} {d ba : Nat} {D : DataW Unit} (hr : reachB (str vt.reverse) = true) (hd : IsDep nxL vt.reverse d) (hA : AllV nxL vt.reverse D d []) (y : List UInt8) (W : World) (hy : y.reverse.length ≤ maxLen) (hm : W.ownsMap Try.prog 9 arrR ba 59049 D) :
    ∃ a b : Int, (Instr.lookup 49 (.map (some ba)) (.string (str y.reverse)) false).run Try.prog W = .ok (.agg #[.int .i64 a, .int .i64 b]) W ∧ ((Rt y vt ∧ 0 < b) ∨ (¬ Rt y vt ∧ b = 0)) := by
  obtain ⟨v, ps, hrun, hRv⟩ := hm.lookup Try.keysS Try.underlying49 (Try.zeroA W) (arrR_mk 0 0) (keyStr hy)
  obtain ⟨a, b, rfl, hab⟩ := arrR_inv hRv
  injection hab with hab _
  have hAT : AtV vt.reverse y.reverse d a b := by
    refine ⟨fun k hk hvk => ?_, fun hno => ?_⟩
    · have := (hA.1 k _ hk hvk).2 (arrD 0 0)
      rw [hab] at this
      exact arrD_injF this
    · have hn : Maps.has D (.string y.reverse) = false := by
        cases hb : Maps.has D (.string y.reverse)
        · rfl
        · rcases hA.2.2 _ hb with ⟨j, hj, hvj⟩ | h
          · exact absurd hvj (hno j hj)
          · simp at h
      rw [atKey_of_not_has hn] at hab
      have := arrD_injF hab
      exact ⟨this.1.symm, this.2.symm⟩
  refine ⟨a, b, hrun, ?_⟩
  rcases at_cases hr hAT with ⟨k, m, hk, hv, _, hb, hm1, _⟩ | ⟨hno, _, hb⟩
  · exact .inl ⟨(rt_rev y vt).2 ⟨k, hv⟩, by omega⟩
  · refine .inr ⟨fun h => ?_, hb⟩
    obtain ⟨k, h1⟩ := (rt_rev y vt).1 h
    by_cases hk : k < d
    · exact hno k hk h1
    · rw [lay_nil hd.2.1 k (by omega)] at h1
      cases h1
/-- The moves of a line, the program's list, and what is known of them. -/
theorem fp_movesP {n : Nat} (ut vt : List UInt8) (hg : goodT n ut) : ∃ M : List (Int × Int), (∀ wx, Calls Try.prog 33 #[.string (str ut)] wx fun e w' => ∃ v, e = .returned (.tuple #[v, .bool true]) ∧ w'.ownsRow wx.heap.size 31 2 v M.length (flat M) ∧ Below wx.heap.size wx w') ∧ M.length ≤ 12 ∧
    (∀ j (h : j < M.length), ∃ a b : Nat, M[j].1 = a ∧ M[j].2 = b ∧ M[j] = ((a : Int), (b : Int)) ∧ a < (str ut).size ∧ b < (str ut).size ∧ a ≠ b ∧ bh ut M[j] = putL (str ut) a b ∧ putL (str ut) a b ∈ nxL ut) ∧
    (∀ x ∈ nxL ut, ∃ j, ∃ h : j < M.length, x = bh ut M[j]) ∧
    (∀ i (h : i < M.length), Rt (bh ut M[i]) vt → (∀ j (h : j < M.length), j < i → ¬ Rt (bh ut M[j]) vt) → FpStep vt ut M[i]) := by
  refine ⟨mvL ut, fun wx => ?_, ?_, fun j h => ?_, fun x hx => ?_, fun i h h1 h2 => ⟨i, h, rfl, h1, fun j hj => h2 j (by omega) hj⟩⟩
  · have h1 := movesOf_any (str ut) wx (by have := ((goodL_iff _).1 hg.1).2.1; unfold maxLen; omega)
    rw [hg.1, show mvsOr (canM (str ut)) (str ut) = mvL ut by unfold mvsOr; rw [hg.1]; rfl] at h1
    exact h1
  · have h1 := mvsTo_le (canM (str ut)) (str ut) (str ut).size
    have h2 := ((goodL_iff _).1 hg.1).2.1
    show (mvsTo (canM (str ut)) (str ut) (str ut).size).length ≤ 12
    omega
  · obtain ⟨a, b, e1, e2, ha, hb, hne, h2, e3⟩ := nx_move hg j h
    refine ⟨a, b, e1, e2, Prod.ext e1 e2, ha, hb, hne, ?_, by rw [← e3]; exact List.getElem_mem h2⟩
    rw [← e3]
    simp only [nxL, List.getElem_map]
    rfl
  · obtain ⟨m, hm, rfl⟩ := List.mem_map.1 hx
    obtain ⟨j, hj, rfl⟩ := List.getElem_of_mem hm
    exact ⟨j, hj, rfl⟩
/-- The code behind the label. -/
noncomputable def fpRest : Code := tlC (tlC (tlC (tlC (tlC (scC (tlC (Try.f10.body.getD .skip)))))))
def FdPost (wl vt : List UInt8) (w : World) (e : Ending) (w' : World) : Prop := (Rt wl vt ∧ FpYes wl vt w e w') ∨ (¬ Rt wl vt ∧ FpNo w e w')
set_option maxRecDepth 100000 in
set_option maxHeartbeats 16000000 in
theorem firstPlay_any (wl vt : List UInt8) (w : World) (hr : reachB (str wl) = true) (hv : reachB (str vt) = true) :
    Calls Try.prog 10 #[.string (str wl), .string (str vt)] w (FdPost wl vt w) := by
  obtain ⟨i0, hi, hz0, hz1, hz2⟩ := info_parts Try.infoM
  have HI := Lib.hid hi
  have HZ0 := Lib.hid hz0
  have HZ1 := Lib.hid hz1
  have HZ2 := Lib.hid hz2
  clear hi hz0 hz1 hz2
  have hg := reach_good hr
  have hgv := reach_good hv
  have hrv := reach_rev hv
  obtain ⟨d, hd, hd2⟩ := dep_of hrv
  have HIW := Lib.hid (fun wx => isReach_any (str wl) wx (by rw [str_size]; have := hg.2.2; unfold maxLen; omega))
  have HIV := Lib.hid (fun wx => isReach_any (str vt) wx (by rw [str_size]; have := hgv.2.2; unfold maxLen; omega))
  rw [hr] at HIW
  rw [hv] at HIV
  have HBV := Lib.hid (fun wx => backwards_any vt wx (by have := ((goodL_iff _).1 hgv.1).1; rw [str_size] at this; exact this) (by have := hgv.2.2; omega))
  have HAR := Lib.hid (fun wx => arrivals_yes d vt.reverse wx hrv hd hd2)
  have HN1 : Hid (1 ≤ wl.length) := Lib.hid (by have := ((goodL_iff _).1 hg.1).1; rwa [str_size] at this)
  have HN10 : Hid (wl.length ≤ 10) := Lib.hid hg.2.2
  have HML : Hid (∀ u l, Fp vt wl l u → l.length ≤ 50000) := Lib.hid fun u l h => h.few hg
  have HFG : Hid (∀ u l, Fp vt wl l u → goodT wl.length u) := Lib.hid fun u l h => (lay_good (steps_line _) hg _ _ h.lay).1
  have HFR : Hid (∀ u l, Rt wl vt → Fp vt wl l u → Rt u vt) := Lib.hid fun u l hR h => (h.ms hg hR).2.1
  have HYES : Hid (∀ e w', FpYes wl vt w e w' → FdPost wl vt w e w') := Lib.hid fun e w' h => by
    obtain ⟨v, l, h1, h2, h3⟩ := h
    exact .inl ⟨⟨_, h2.lay⟩, v, l, h1, h2, h3⟩
  have HNOP : Hid (∀ e w', ¬ Rt wl vt → FpNo w e w' → FdPost wl vt w e w') := Lib.hid fun e w' h1 h2 => .inr ⟨h1, h2⟩
  have HRV := Lib.hid hrv
  have HD := Lib.hid hd
  clear hr hv hg hgv hrv hd
  have PASS : ∀ (J' : Act → World → Prop) (ut : List UInt8) (l : List (Int × Int)) (ba : Nat) (v : Value) (u2 u3 u4 u5 u7 u10 u11 u12 u13 u14 u15 u16 u17 u18 u19 u20 u21 u22 u23 u24 u25 u26 u27 u28 u29 u30 u31 u32 u33 u34 u35 u36 u37 u38 u39 u40 u41 u42 u43 u44 u45 u46 u47 u48 u49 u50 u51 u52 u53 u54 u55 u56 u57 u58 u59 u60 : Value) (wr : World), FpJ wl vt d w ba ut l v wr → (∀ (y : List UInt8) (l' : List (Int × Int)) (v' : Value) (u2 u3 u4 u5 u7 u10 u11 u12 u13 u14 u15 u16 u17 u18 u19 u20 u21 u22 u23 u24 u25 u26 u27 u28 u29 u30 u31 u32 u33 u34 u35 u36 u37 u38 u39 u40 u41 u42 u43 u44 u45 u46 u47 u48 u49 u50 u51 u52 u53 u54 u55 u56 u57 u58 u59 u60 : Value) (w' : World), FpJ wl vt d w ba y l' v' w' → slLenF v' = slLenF v + 1 → slLenF v' ≤ 50001 → J' { tmps := #[.string (str wl), .string (str vt), u2, u3, u4, u5, .map (some ba), u7, .string (str y), v', u10, u11, u12, u13, u14, u15, u16, u17, u18, u19, u20, u21, u22, u23, u24, u25, u26, u27, u28, u29, u30, u31, u32, u33, u34, u35, u36, u37, u38, u39, u40, u41, u42, u43, u44, u45, u46, u47, u48, u49, u50, u51, u52, u53, u54, u55, u56, u57, u58, u59, u60], defers := [] } w') → Code.wp Try.prog fpRest (Exit.jump 0 J' (bodyPost Try.prog Try.f10 (FdPost wl vt w))) { tmps := #[.string (str wl), .string (str vt), u2, u3, u4, u5, .map (some ba), u7, .string (str ut), v, u10, u11, u12, u13, u14, u15, u16, u17, u18, u19, u20, u21, u22, u23, u24, u25, u26, u27, u28, u29, u30, u31, u32, u33, u34, u35, u36, u37, u38, u39, u40, u41, u42, u43, u44, u45, u46, u47, u48, u49, u50, u51, u52, u53, u54, u55, u56, u57, u58, u59, u60], defers := [] } wr := by
    intro J' ut l ba v u2 u3 u4 u5 u7 u10 u11 u12 u13 u14 u15 u16 u17 u18 u19 u20 u21 u22 u23 u24 u25 u26 u27 u28 u29 u30 u31 u32 u33 u34 u35 u36 u37 u38 u39 u40 u41 u42 u43 u44 u45 u46 u47 u48 u49 u50 u51 u52 u53 u54 u55 u56 u57 u58 u59 u60 wr hrel hJ
    conv => arg 2; whnf
    obtain ⟨D, hrel, hA⟩ := hrel
    have HF := Lib.hid hrel.1
    have HO := Lib.hid hrel.2.1
    have HM := Lib.hid hrel.2.2.1
    have HB := Lib.hid hrel.2.2.2
    have HAV := Lib.hid hA
    have HLK := Lib.hid (fun y W hy (hm : W.ownsMap Try.prog 9 arrR ba 59049 D) => fp_look HRV.out HD.out hA y W hy hm)
    clear hrel hA
    by_cases hne : ut = vt
    · subst hne
      have hb : ((str ut).toList == (str ut).toList) = true := by rw [same_str]; simp
      go_wp2_with fail
      refine jump_retF ?_
      go_ret2
      exact HYES.out _ _ ⟨v, l, rfl, HF.out, HO.out, HB.out⟩
    · have hb : ((str ut).toList == (str vt).toList) = false := by rw [same_str]; simpa using hne
      have hg := HFG.out _ _ HF.out
      have hl5 := HML.out _ _ HF.out
      have HSTEP := Lib.hid (fun h => rt_step (u := ut) (v := vt) h hne)
      have HGU := Lib.hid hg
      have hsz : (str ut).size ≤ 12 := ((goodL_iff _).1 hg.1).2.1
      obtain ⟨M, hM1, hMl, hM2, hM3, hM4⟩ := fp_movesP ut vt hg
      have HMO := Lib.hid hM1
      have HMV := Lib.hid hM2
      have HNX := Lib.hid hM3
      have HFS := Lib.hid hM4
      have HNE := Lib.hid hne
      clear hg hne hM1 hM2 hM3 hM4
      go_wp2_with fail
      refine (HMO.out _).mono ?_
      rintro e w2 ⟨v2, rfl, ho2, hb2⟩
      obtain ⟨A1, cap1, rfl, AT1⟩ := at_of_own ho2
      have AT := Lib.hid AT1
      have HO2 := Lib.hid (own_below HO.out hb2)
      have HB2 := Lib.hid (HB.out.trans (hb2.mono HB.out.size))
      have HM2 := Lib.hid (HM.out.kept (grown_of_belowF hb2) (by simp))
      clear ho2 AT1 hb2 HO HB HM
      go_wp2_with fail
      go_loopg [8, 9, 41] M.length (fun gj s0 v0 t wr => ∃ j : Nat, j + gj = M.length ∧ s0 = .string (str ut) ∧ v0 = v ∧ t = .int .i64 j ∧ Hid (∀ i (h : i < M.length), i < j → ¬ Rt (bh ut M[i]) vt) ∧ Hid (Below w2.heap.size w2 wr))
      case atStart => exact ⟨0, by omega, rfl, rfl, rfl, Lib.hid fun i h hi => by omega, Lib.hid (Below.refl _ _)⟩
      case round =>
        obtain ⟨j, hj, rfl, hv0, rfl, HNO, HB3⟩ := hrel
        subst hv0
        obtain ⟨V, hV⟩ : ∃ V : World, V = wr := ⟨_, rfl⟩
        subst hV
        by_cases hltj : j < M.length
        · obtain ⟨gm, rfl, z1, p1, q1⟩ := (AT.out.below HB3.out) j hltj
          obtain ⟨a2, b2, e1, e2, e3, hai, hbi, hneab, e4, hxn⟩ := HMV.out j hltj
          rw [e1] at p1
          rw [e2] at q1
          have HMJ := Lib.hid e3
          have HBH := Lib.hid e4
          have hgy := (steps_line wl.length).keeps ut _ HGU.out hxn
          have HMK := Lib.hid (fun wx => lineBehind_any (str ut) a2 b2 wx hai hbi hneab)
          generalize putL (str ut) a2 b2 = y at HMK HBH hgy
          have HBK := Lib.hid (fun wx => backwards_any y wx (by rw [hgy.2.1]; exact HN1.out) (by rw [hgy.2.1]; have := HN10.out; omega))
          have hyl : y.reverse.length ≤ maxLen := by rw [List.length_reverse, hgy.2.1]; have := HN10.out; unfold maxLen; omega
          have j1 : (0 : Int) ≤ (j : Int) := by omega
          have j2 : (j : Int) < (M.length : Int) := by omega
          clear e1 e2 e3 e4 hxn hneab hgy
          go_upto_region 12 with fail
          generalize hV1 : V.alloc (Obj.cells #[Value.int IntKind.i64 ↑a2, Value.int IntKind.i64 ↑b2] 31) = V1
          have hbv : Below V.heap.size V V1 := by rw [← hV1]; exact (Below.refl _ _).alloc (Nat.le_refl _) _
          have r0 : V1.cell? ⟨V.heap.size, 0, none⟩ = some (.int .i64 a2) := by rw [← hV1, World.cell?_alloc_new]; rfl
          have r1 : V1.cell? ⟨V.heap.size, 1, none⟩ = some (.int .i64 b2) := by rw [← hV1, World.cell?_alloc_new]; rfl
          have zv : V.heap.size < V1.heap.size := by rw [← hV1]; simp
          have HB4 := Lib.hid (HB3.out.trans (hbv.mono HB3.out.size))
          clear hV1 hbv p1 q1
          go_wp2_with fail
          refine (HMK.out _).mono ?_
          rintro e w4 ⟨rfl, hb4⟩
          replace r0 := (hb4.cell (p := ⟨V.heap.size, 0, none⟩) zv).trans r0
          replace r1 := (hb4.cell (p := ⟨V.heap.size, 1, none⟩) zv).trans r1
          have zv4 : V.heap.size < w4.heap.size := Nat.lt_of_lt_of_le zv hb4.size
          have HB5 := Lib.hid (HB4.out.trans (hb4.mono HB4.out.size))
          clear hb4 HB4
          go_wp2_with fail
          refine (HBK.out _).mono ?_
          rintro e w5 ⟨rfl, hb5⟩
          replace r0 := (hb5.cell (p := ⟨V.heap.size, 0, none⟩) zv4).trans r0
          replace r1 := (hb5.cell (p := ⟨V.heap.size, 1, none⟩) zv4).trans r1
          have HB6 := Lib.hid (HB5.out.trans (hb5.mono HB5.out.size))
          have hown5 := HM2.out.kept (grown_of_belowF HB6.out) (by simp)
          obtain ⟨a5, b5, hrun, hA5⟩ := HLK.out y w5 hyl hown5
          have hfd : ∀ w : World, (Instr.field 58 (.agg #[.int .i64 a5, .int .i64 b5]) 1).run Try.prog w = .ok (.int .i64 b5) w := fun _ => by kernel_rfl
          clear hb5 HB5 hown5
          rcases hA5 with ⟨hyes, h5⟩ | ⟨hno, rfl⟩
          · have HFN : Hid (Fp vt wl (l ++ [((a2 : Int), (b2 : Int))]) y) := Lib.hid (by
              have h6 := Fp.next wl ut l M[j] HF.out HNE.out (HFS.out j hltj (by rw [HBH.out]; exact hyes) (fun i h hij => HNO.out i h hij))
              rw [HBH.out] at h6
              rw [HMJ.out] at h6
              exact h6)
            clear hyes
            have hrow := own_below HO2.out HB6.out
            have HROW := Lib.hid hrow
            have H2' : ∀ u ∈ [Value.int .i64 (a2 : Int), Value.int .i64 (b2 : Int)], u.oneCell' = true := fun u hu => by simp at hu; rcases hu with rfl | rfl <;> rfl
            have H3' : l.length + 1 ≤ maxLen := by unfold maxLen; omega
            have H4' : (l.length + 1) * 16 ≤ 140737488355328 := by omega
            have hB7 := HB2.out.trans (HB6.out.mono HB2.out.size)
            have H5' : w.heap.size ≤ (w5.alloc (Obj.cells #[.int .i64 (a2 : Int), .int .i64 (b2 : Int)] 31)).heap.size := by have := hB7.size; simp; omega
            have HB7 := Lib.hid hB7
            clear hrow hB7
            go_wp2_with (first | (at_builtin; refine wpList_append_own _ rfl _ _ 22 rfl w.heap.size 31 i0 (.agg #[.int .i64 0, .int .i64 0]) 2 16 Try.underlying22 HI.out HZ0.out HZ1.out HZ2.out rfl (by decide) _ _ _ rfl (HROW.out.alloc _) ⟨w5.heap.size, 0, none⟩ 1 1 [.int .i64 (a2 : Int), .int .i64 (b2 : Int)] rfl rfl (cell_two_new _ _ _ _) H2' H3' H4' H5' ?_; intro v' w6 hown' hgrow _))
            have HNEW : Hid (FpW wl vt D w ba y (l ++ [((a2 : Int), (b2 : Int))]) v' w6) := Lib.hid (by
              have e1 : flat (l ++ [((a2 : Int), (b2 : Int))]) = flat l ++ [.int .i64 (a2 : Int), .int .i64 (b2 : Int)] := by simp [flat]
              refine ⟨HFN.out, ?_, ?_, (HB7.out.alloc HB7.out.size (Obj.cells #[.int .i64 (a2 : Int), .int .i64 (b2 : Int)] 31)).grown hgrow H5' (fun g e => (HROW.out.lt g e).1)⟩
              · rw [e1, List.length_append]
                exact hown'
              · exact ((HM2.out.kept (grown_of_belowF HB6.out) (by simp)).alloc _).kept hgrow (map_row_apart (HM2.out.kept (grown_of_belowF HB6.out) (by simp)) HROW.out))
            have hlv : slLenF v' = l.length + 1 := own_len hown'
            have hlv0 := own_len HROW.out
            clear hown' hgrow
            go_wp2_with fail
            refine wp_goto ?_
            exact ⟨rfl, hJ y (l ++ [((a2 : Int), (b2 : Int))]) v' _ _ _ _ _ _ _ _ _ _ _ _ _ _ _ _ _ _ _ _ _ _ _ _ _ _ _ _ _ _ _ _ _ _ _ _ _ _ _ _ _ _ _ _ _ _ _ _ _ _ _ _ _ _ _ _ w6 ⟨D, HNEW.out, HAV.out⟩ (by omega) (by omega)⟩
          · have HNO2 : Hid (∀ i (h : i < M.length), i < j + 1 → ¬ Rt (bh ut M[i]) vt) := Lib.hid fun i h hi => by
              by_cases e : i < j
              · exact HNO.out i h e
              · obtain rfl : i = j := by omega
                rw [HBH.out]
                exact hno
            clear hno
            go_wp2_with fail
            go_roundg (gk - 1)
            case measure => omega
            case rel => exact ⟨j + 1, by omega, rfl, rfl, by go_num, HNO2, HB6⟩
        · obtain rfl : j = M.length := by omega
          have HNR : Hid (¬ Rt wl vt) := Lib.hid fun hR => by
            obtain ⟨x, hx, hxr⟩ := HSTEP.out (HFR.out _ _ hR HF.out)
            obtain ⟨q, hq, e⟩ := HNX.out x hx
            exact HNO.out q hq hq (by rw [← e]; exact hxr)
          go_wp2_with fail
          refine jump_retF ?_
          go_ret2
          exact HNOP.out _ _ HNR.out ⟨rfl, HB2.out.trans (HB3.out.mono HB2.out.size)⟩
  go_enter Try.func10, Try.ntmps10
  go_wp2
  refine wp_scope_jumps 0 (fun a w' => ∃ (ut : List UInt8) (l : List (Int × Int)) (ba : Nat) (v : Value) (u2 u3 u4 u5 u7 u10 u11 u12 u13 u14 u15 u16 u17 u18 u19 u20 u21 u22 u23 u24 u25 u26 u27 u28 u29 u30 u31 u32 u33 u34 u35 u36 u37 u38 u39 u40 u41 u42 u43 u44 u45 u46 u47 u48 u49 u50 u51 u52 u53 u54 u55 u56 u57 u58 u59 u60 : Value), FpJ wl vt d w ba ut l v w' ∧ a = { tmps := #[.string (str wl), .string (str vt), u2, u3, u4, u5, .map (some ba), u7, .string (str ut), v, u10, u11, u12, u13, u14, u15, u16, u17, u18, u19, u20, u21, u22, u23, u24, u25, u26, u27, u28, u29, u30, u31, u32, u33, u34, u35, u36, u37, u38, u39, u40, u41, u42, u43, u44, u45, u46, u47, u48, u49, u50, u51, u52, u53, u54, u55, u56, u57, u58, u59, u60], defers := [] }) (fun a _ => 60000 - slLenF (a.tmps.getD 9 undef)) rfl ?_ ?_
  · go_wp2_with fail
    refine (HIW.out _).mono ?_
    rintro e w1 ⟨rfl, rfl⟩
    go_wp2_with fail
    refine (HIV.out _).mono ?_
    rintro e w1 ⟨rfl, rfl⟩
    go_wp2_with fail
    refine (HBV.out _).mono ?_
    rintro e w1 ⟨rfl, hb1⟩
    go_wp2_with fail
    refine (HAR.out _).mono ?_
    rintro e w2 ⟨ba, rfl, hba, ⟨D, hown, hA⟩, hb2⟩
    have hrel : FpJ wl vt d w ba wl [] (.slice none 0 0) w2 := ⟨D, ⟨.start wl, World.ownsRow_nil _ _ _ _, hown, hb1.trans (hb2.mono hb1.size)⟩, hA⟩
    clear hb1 hb2 hown hA hba
    go_wp2_with fail
    refine wp_label ?_
    rename_i KK hKK
    show KK _ _
    refine hKK _ _ ?_
    refine PASS _ wl [] ba _ _ _ _ _ _ _ _ _ _ _ _ _ _ _ _ _ _ _ _ _ _ _ _ _ _ _ _ _ _ _ _ _ _ _ _ _ _ _ _ _ _ _ _ _ _ _ _ _ _ _ _ _ _ _ _ _ w2 hrel ?_
    intro y l' v' u2 u3 u4 u5 u7 u10 u11 u12 u13 u14 u15 u16 u17 u18 u19 u20 u21 u22 u23 u24 u25 u26 u27 u28 u29 u30 u31 u32 u33 u34 u35 u36 u37 u38 u39 u40 u41 u42 u43 u44 u45 u46 u47 u48 u49 u50 u51 u52 u53 u54 u55 u56 u57 u58 u59 u60 w' h h1 h2
    exact ⟨y, l', ba, v', u2, u3, u4, u5, u7, u10, u11, u12, u13, u14, u15, u16, u17, u18, u19, u20, u21, u22, u23, u24, u25, u26, u27, u28, u29, u30, u31, u32, u33, u34, u35, u36, u37, u38, u39, u40, u41, u42, u43, u44, u45, u46, u47, u48, u49, u50, u51, u52, u53, u54, u55, u56, u57, u58, u59, u60, h, rfl⟩
  · rintro a wr ⟨ut, l, ba, v, u2, u3, u4, u5, u7, u10, u11, u12, u13, u14, u15, u16, u17, u18, u19, u20, u21, u22, u23, u24, u25, u26, u27, u28, u29, u30, u31, u32, u33, u34, u35, u36, u37, u38, u39, u40, u41, u42, u43, u44, u45, u46, u47, u48, u49, u50, u51, u52, u53, u54, u55, u56, u57, u58, u59, u60, hrel, rfl⟩
    refine wp_seq (wp_skip ?_)
    show Code.wp Try.prog fpRest _ _ _
    refine PASS _ ut l ba v u2 u3 u4 u5 u7 u10 u11 u12 u13 u14 u15 u16 u17 u18 u19 u20 u21 u22 u23 u24 u25 u26 u27 u28 u29 u30 u31 u32 u33 u34 u35 u36 u37 u38 u39 u40 u41 u42 u43 u44 u45 u46 u47 u48 u49 u50 u51 u52 u53 u54 u55 u56 u57 u58 u59 u60 wr hrel ?_
    intro y l' v' u2 u3 u4 u5 u7 u10 u11 u12 u13 u14 u15 u16 u17 u18 u19 u20 u21 u22 u23 u24 u25 u26 u27 u28 u29 u30 u31 u32 u33 u34 u35 u36 u37 u38 u39 u40 u41 u42 u43 u44 u45 u46 u47 u48 u49 u50 u51 u52 u53 u54 u55 u56 u57 u58 u59 u60 w' h h1 h2
    refine ⟨⟨y, l', ba, v', u2, u3, u4, u5, u7, u10, u11, u12, u13, u14, u15, u16, u17, u18, u19, u20, u21, u22, u23, u24, u25, u26, u27, u28, u29, u30, u31, u32, u33, u34, u35, u36, u37, u38, u39, u40, u41, u42, u43, u44, u45, u46, u47, u48, u49, u50, u51, u52, u53, u54, u55, u56, u57, u58, u59, u60, h, rfl⟩, ?_⟩
    show 60000 - slLenF v' < 60000 - slLenF v
    omega
end Go.Proofs.Ytflpncdnneapmaa
