/- FirstPlay: the model's side. -/
import Derived.Test.YtflpncdnneapmaaFqA
import Derived.Deep.LoopGhost
import Derived.Deep.Cut
namespace Go.Proofs.Ytflpncdnneapmaa
open Go.RowKit

theorem own_lowF {w : World} {b b' : Nat} {e : TypeId} {size n : Nat} {v : Value} {xs : List Value} (h : w.ownsRow b e size v n xs) (hle : b' ≤ b) : w.ownsRow b' e size v n xs := by
  refine ⟨h.1, ?_⟩
  rcases h.2 with h2 | ⟨g, cap, cur, e1, hb, r⟩
  · exact .inl h2
  · exact .inr ⟨g, cap, cur, e1, Nat.le_trans hle hb, r⟩
/-- The first play, or none. -/
def FpNo (w : World) (e : Ending) (w' : World) : Prop := e = .returned (.tuple #[.slice none 0 0, .bool false]) ∧ Below w.heap.size w w'
def FpYes (wl vt : List UInt8) (w : World) (e : Ending) (w' : World) : Prop :=
  ∃ v l, e = .returned (.tuple #[v, .bool true]) ∧ Fp vt wl l vt ∧ w'.ownsRow w.heap.size 31 2 v l.length (flat l) ∧ Below w.heap.size w w'
set_option maxRecDepth 100000 in
set_option maxHeartbeats 2000000 in
theorem sFirstPlay_no1 (s t : ByteArray) (w : World) (hs : s.size ≤ maxLen) (ht : t.size ≤ maxLen) (h : (reachB s && reachB t) = false) :
    Calls Try.prog 9 #[.string s, .string t] w (FpNo w) := by
  have H1 := Lib.hid (fun wx => reFew_any s wx hs)
  have H2 := Lib.hid (fun wx => reFew_any t wx ht)
  cases hs1 : reachB s
  · rw [hs1] at H1
    clear h hs1
    go_enter Try.func9, Try.ntmps9
    go_wp2_with fail
    refine (H1.out _).mono ?_
    rintro e w1 ⟨rfl, rfl⟩
    go_wp2_with fail
    go_ret2
    exact ⟨rfl, Below.refl _ _⟩
  · rw [hs1, Bool.true_and] at h
    rw [hs1] at H1
    rw [h] at H2
    clear h hs1
    go_enter Try.func9, Try.ntmps9
    go_wp2_with fail
    refine (H1.out _).mono ?_
    rintro e w1 ⟨rfl, rfl⟩
    go_wp2_with fail
    refine (H2.out _).mono ?_
    rintro e w1 ⟨rfl, rfl⟩
    go_wp2_with fail
    go_ret2
    exact ⟨rfl, Below.refl _ _⟩
set_option maxRecDepth 100000 in
set_option maxHeartbeats 2000000 in
theorem sFirstPlay_no2 (wl vt : List UInt8) (w : World) (hr : reachB (str wl) = true) (hv : reachB (str vt) = true) (hR : ¬ Rt wl vt) :
    Calls Try.prog 9 #[.string (str wl), .string (str vt)] w (FpNo w) := by
  have hg := reach_good hr
  have hgv := reach_good hv
  have H1 := Lib.hid (fun wx => reFew_any (str wl) wx (by rw [str_size]; have := hg.2.2; unfold maxLen; omega))
  have H2 := Lib.hid (fun wx => reFew_any (str vt) wx (by rw [str_size]; have := hgv.2.2; unfold maxLen; omega))
  rw [hr] at H1
  rw [hv] at H2
  have H3 := Lib.hid (fun wx => after_rt wl vt hg hg.2.2 wx)
  have HR := Lib.hid hR
  clear hr hv hR hg hgv
  go_enter Try.func9, Try.ntmps9
  go_wp2_with fail
  refine (H1.out _).mono ?_
  rintro e w1 ⟨rfl, rfl⟩
  go_wp2_with fail
  refine (H2.out _).mono ?_
  rintro e w1 ⟨rfl, rfl⟩
  go_wp2_with fail
  refine (H3.out _).mono ?_
  rintro e w1 ⟨a, rfl, hA, hb1⟩
  obtain rfl : a = -1 := by
    rcases hA with ⟨h, _⟩ | ⟨_, h⟩
    · exact absurd h HR.out
    · exact h
  have HB1 := Lib.hid hb1
  clear hA hb1
  go_wp2_with fail
  go_ret2
  exact ⟨rfl, HB1.out⟩
set_option maxRecDepth 100000 in
set_option maxHeartbeats 4000000 in
theorem sFirstPlay_yes (wl vt : List UInt8) (w : World) (hr : reachB (str wl) = true) (hv : reachB (str vt) = true) (hR : Rt wl vt) :
    Calls Try.prog 9 #[.string (str wl), .string (str vt)] w (FpYes wl vt w) := by
  obtain ⟨i0, hi, hz0, hz1, hz2⟩ := info_parts Try.infoM
  have HI := Lib.hid hi
  have HZ0 := Lib.hid hz0
  have HZ1 := Lib.hid hz1
  have HZ2 := Lib.hid hz2
  clear hi hz0 hz1 hz2
  have hg := reach_good hr
  have hgv := reach_good hv
  have H1 := Lib.hid (fun wx => reFew_any (str wl) wx (by rw [str_size]; have := hg.2.2; unfold maxLen; omega))
  have H2 := Lib.hid (fun wx => reFew_any (str vt) wx (by rw [str_size]; have := hgv.2.2; unfold maxLen; omega))
  rw [hr] at H1
  rw [hv] at H2
  have H3 := Lib.hid (fun x (hx : goodT wl.length x) wx => after_rt x vt hx hg.2.2 wx)
  have HG := Lib.hid hg
  have HR := Lib.hid hR
  have hms := (rt_ms hg hR).2
  obtain ⟨K, hK⟩ : ∃ K : Nat, msL wl - msL vt = (K : Int) := ⟨(msL wl - msL vt).toNat, by omega⟩
  have HMS : Hid (∀ u l, Fp vt wl l u → l.length ≤ K) := Lib.hid fun u l h => by
    obtain ⟨h1, h2, h3⟩ := h.ms hg hR
    have := (rt_ms h1 h2).2
    omega
  have HML : Hid (∀ u l, Fp vt wl l u → l.length ≤ 50000) := Lib.hid fun u l h => h.few hg
  clear hr hv hR hg hgv hms hK
  go_enter Try.func9, Try.ntmps9
  go_wp2_with fail
  refine (H1.out _).mono ?_
  rintro e w1 ⟨rfl, rfl⟩
  go_wp2_with fail
  refine (H2.out _).mono ?_
  rintro e w1 ⟨rfl, rfl⟩
  go_wp2_with fail
  refine (H3.out wl HG.out _).mono ?_
  rintro e w1 ⟨a, rfl, hA, hb1⟩
  have ha : 0 ≤ a := by
    rcases hA with ⟨_, h⟩ | ⟨h, _⟩
    · exact h
    · exact absurd HR.out h
  have ha2 : ¬ a < 0 := by omega
  have HB1 := Lib.hid hb1
  have HO1 : Hid (w1.ownsRow w1.heap.size 31 2 (.slice none 0 0) ([] : List (Int × Int)).length (flat [])) := Lib.hid (World.ownsRow_nil _ _ _ _)
  have HO1' : Hid (w1.ownsRow w.heap.size 31 2 (.slice none 0 0) ([] : List (Int × Int)).length (flat [])) := Lib.hid (World.ownsRow_nil _ _ _ _)
  clear hA hb1
  go_wp2_with fail
  go_loopg [0, 6] K (fun gk u v wr => ∃ (ut : List UInt8) (l : List (Int × Int)), l.length + gk = K ∧ u = .string (str ut) ∧ Hid (Fp vt wl l ut) ∧ Hid (wr.ownsRow w.heap.size 31 2 v l.length (flat l)) ∧ Hid (Below w.heap.size w wr))
  case atStart => exact ⟨wl, [], by simp, rfl, Lib.hid (.start wl), HO1', HB1⟩
  case round =>
    obtain ⟨ut, l, hlk, rfl, HF, HO, HB⟩ := hrel
    obtain ⟨W, hW⟩ : ∃ W : World, W = wr := ⟨_, rfl⟩
    subst hW
    obtain ⟨G, hG⟩ : ∃ G : Nat, G = gk := ⟨_, rfl⟩
    subst hG
    obtain ⟨vF, hvF⟩ : ∃ v : Value, v = u6 := ⟨_, rfl⟩
    subst hvF
    clear HO1 HO1'
    by_cases hne : ut = vt
    · subst hne
      have hb : ((str ut).toList == (str ut).toList) = true := by rw [same_str]; simp
      go_wp2_with fail
      go_ret2
      exact ⟨_, l, rfl, HF.out, HO.out, HB.out⟩
    · have hb : ((str ut).toList == (str vt).toList) = false := by rw [same_str]; simpa using hne
      have hg := (HF.out.ms HG.out HR.out).1
      have hru := (HF.out.ms HG.out HR.out).2.1
      have hl5 := HML.out _ _ HF.out
      have HSTEP := Lib.hid (rt_step hru hne)
      have HGU := Lib.hid hg
      have hsz : (str ut).size ≤ 12 := ((goodL_iff _).1 hg.1).2.1
      obtain ⟨M, hM1, hMl, hM2, hM3, hM4⟩ := fp_moves ut vt hg
      have HLM := Lib.hid hM1
      have HMV := Lib.hid hM2
      have HNX := Lib.hid hM3
      have HFS := Lib.hid hM4
      have HNE := Lib.hid hne
      unfold SpPost at HLM
      clear hg hru hne hM1 hM2 hM3 hM4
      go_wp2_with fail
      refine (HLM.out _).mono ?_
      rintro e w2 ⟨v2, rfl, ho2, hb2⟩
      obtain ⟨A1, cap1, rfl, AT1⟩ := at_of_own ho2
      have AT := Lib.hid AT1
      have HO2 := Lib.hid (own_below HO.out hb2)
      have HB2 := Lib.hid (HB.out.trans (hb2.mono HB.out.size))
      clear ho2 AT1 hb2 HO HB
      go_wp2_with fail
      go_loopg [0, 6, 30] M.length (fun gj s0 v0 t wr => ∃ j : Nat, j + gj = M.length ∧ s0 = .string (str ut) ∧ v0 = vF ∧ t = .int .i64 j ∧ Hid (∀ i (h : i < M.length), i < j → ¬ Rt (bh ut M[i]) vt) ∧ Hid (Below w2.heap.size w2 wr))
      case atStart => exact ⟨0, by omega, rfl, rfl, rfl, Lib.hid fun i h hi => by omega, Lib.hid (Below.refl _ _)⟩
      case round =>
        obtain ⟨j, hj, rfl, hv0, rfl, HNO, HB3⟩ := hrel
        subst hv0
        obtain ⟨V, hV⟩ : ∃ V : World, V = wr := ⟨_, rfl⟩
        subst hV
        by_cases hltj : j < M.length
        · obtain ⟨gm, rfl, z1, p1, q1⟩ := (AT.out.below HB3.out) j hltj
          obtain ⟨a2, b2, e1, e2, e3, hai, hbi, hneab, e4, hxn⟩ := HMV.out j hltj
          rw [e1] at p1
          rw [e2] at q1
          have HMJ := Lib.hid e3
          have HBH := Lib.hid e4
          have hgy := (steps_line wl.length).keeps ut _ HGU.out hxn
          have HMK := Lib.hid (fun wx => liMake_any (str ut) a2 b2 wx (by omega) hai hbi hneab)
          generalize putL (str ut) a2 b2 = y at HMK HBH hgy
          have H3Y := Lib.hid (fun wx => H3.out y hgy wx)
          have j1 : (0 : Int) ≤ (j : Int) := by omega
          have j2 : (j : Int) < (M.length : Int) := by omega
          clear e1 e2 e3 e4 hxn hneab hgy
          go_upto_region 8 with fail
          generalize hV1 : V.alloc (Obj.cells #[Value.int IntKind.i64 ↑a2, Value.int IntKind.i64 ↑b2] 31) = V1
          have hbv : Below V.heap.size V V1 := by rw [← hV1]; exact (Below.refl _ _).alloc (Nat.le_refl _) _
          have r0 : V1.cell? ⟨V.heap.size, 0, none⟩ = some (.int .i64 a2) := by rw [← hV1, World.cell?_alloc_new]; rfl
          have r1 : V1.cell? ⟨V.heap.size, 1, none⟩ = some (.int .i64 b2) := by rw [← hV1, World.cell?_alloc_new]; rfl
          have zv : V.heap.size < V1.heap.size := by rw [← hV1]; simp
          have HB4 := Lib.hid (HB3.out.trans (hbv.mono HB3.out.size))
          clear hV1 hbv p1 q1
          go_wp2_with fail
          refine (HMK.out _).mono ?_
          rintro e w4 ⟨rfl, hb4⟩
          replace r0 := (hb4.cell (p := ⟨V.heap.size, 0, none⟩) zv).trans r0
          replace r1 := (hb4.cell (p := ⟨V.heap.size, 1, none⟩) zv).trans r1
          have zv4 : V.heap.size < w4.heap.size := Nat.lt_of_lt_of_le zv hb4.size
          have HB5 := Lib.hid (HB4.out.trans (hb4.mono HB4.out.size))
          clear hb4 HB4
          go_wp2_with fail
          refine (H3Y.out _).mono ?_
          rintro e w5 ⟨a5, rfl, hA5, hb5⟩
          replace r0 := (hb5.cell (p := ⟨V.heap.size, 0, none⟩) zv4).trans r0
          replace r1 := (hb5.cell (p := ⟨V.heap.size, 1, none⟩) zv4).trans r1
          have HB6 := Lib.hid (HB5.out.trans (hb5.mono HB5.out.size))
          clear hb5 HB5
          rcases hA5 with ⟨hyes, h5⟩ | ⟨hno, rfl⟩
          · have HFN : Hid (Fp vt wl (l ++ [((a2 : Int), (b2 : Int))]) y) := Lib.hid (by
              have h6 := Fp.next wl ut l M[j] HF.out HNE.out (HFS.out j hltj (by rw [HBH.out]; exact hyes) (fun i h hij => HNO.out i h hij))
              rw [HBH.out] at h6
              rw [HMJ.out] at h6
              exact h6)
            have hlK := HMS.out _ _ HFN.out
            rw [List.length_append] at hlK
            have hlK : l.length + 1 ≤ K := hlK
            have h6 : ¬ a5 < 0 := by omega
            clear hyes
            have hrow := own_below HO2.out HB6.out
            have HROW := Lib.hid hrow
            have H2' : ∀ u ∈ [Value.int .i64 (a2 : Int), Value.int .i64 (b2 : Int)], u.oneCell' = true := fun u hu => by simp at hu; rcases hu with rfl | rfl <;> rfl
            have H3' : l.length + 1 ≤ maxLen := by unfold maxLen; omega
            have H4' : (l.length + 1) * 16 ≤ 140737488355328 := by omega
            have hB7 := HB2.out.trans (HB6.out.mono HB2.out.size)
            have H5' : w.heap.size ≤ (w5.alloc (Obj.cells #[.int .i64 (a2 : Int), .int .i64 (b2 : Int)] 31)).heap.size := by have := hB7.size; simp; omega
            have HB7 := Lib.hid hB7
            clear hrow hB7
            go_wp2_with (first | (at_builtin; refine wpList_append_own _ rfl _ _ 22 rfl w.heap.size 31 i0 (.agg #[.int .i64 0, .int .i64 0]) 2 16 Try.underlying22 HI.out HZ0.out HZ1.out HZ2.out rfl (by decide) _ _ _ rfl (HROW.out.alloc _) ⟨w5.heap.size, 0, none⟩ 1 1 [.int .i64 (a2 : Int), .int .i64 (b2 : Int)] rfl rfl (cell_two_new _ _ _ _) H2' H3' H4' H5' ?_; intro v' w6 hown' hgrow _))
            have HO6 : Hid (w6.ownsRow w.heap.size 31 2 v' (l ++ [((a2 : Int), (b2 : Int))]).length (flat (l ++ [((a2 : Int), (b2 : Int))]))) := Lib.hid (by
              have e1 : flat (l ++ [((a2 : Int), (b2 : Int))]) = flat l ++ [.int .i64 (a2 : Int), .int .i64 (b2 : Int)] := by simp [flat]
              rw [e1, List.length_append]
              exact hown')
            have HB8 := Lib.hid ((HB7.out.alloc HB7.out.size (Obj.cells #[.int .i64 (a2 : Int), .int .i64 (b2 : Int)] 31)).grown hgrow H5' (fun g e => (HROW.out.lt g e).1))
            clear hown' hgrow
            go_roundg (G - 1)
            case measure => omega
            case rel => exact ⟨y, l ++ [((a2 : Int), (b2 : Int))], by rw [List.length_append]; simp; omega, rfl, HFN, HO6, HB8⟩
          · have HNO2 : Hid (∀ i (h : i < M.length), i < j + 1 → ¬ Rt (bh ut M[i]) vt) := Lib.hid fun i h hi => by
              by_cases e : i < j
              · exact HNO.out i h e
              · obtain rfl : i = j := by omega
                rw [HBH.out]
                exact hno
            clear hno
            go_wp2_with fail
            go_roundg (gk - 1)
            case measure => omega
            case rel => exact ⟨j + 1, by omega, rfl, rfl, by go_num, HNO2, HB6⟩
        · exfalso
          obtain ⟨x, hx, hxr⟩ := HSTEP.out
          obtain ⟨q, hq, e⟩ := HNX.out x hx
          exact HNO.out q hq (by omega) (by rw [← e]; exact hxr)
end Go.Proofs.Ytflpncdnneapmaa
