/- Contract: a puzzle made of a line and a seed: the program's. -/
import Derived.Test.YtjnidfleccbdbaaPzMl
import Derived.Test.YtjnidfleccbdbaaGmV
namespace Go.Proofs.Ytjnidfleccbdbaa
open Go.RowKit

theorem kpM_own {w w' : World} {base B : Nat} {e : TypeId} {size n : Nat} {v : Value} {xs : List Value} (h : w.ownsRow base e size v n xs) (hk : KpM B w w') (hB : B < base) : w'.ownsRow base e size v n xs :=
  own_farB h hk.far fun g hg e => by
    have h1 := (h.lt g hg).1
    have h2 : g = B := Option.some.inj e
    omega
theorem MkS.kp {w wx wy : World} {r p lo B : Nat} {n : Int} {L : List Cl} {v : Value} (h : MkS w r p lo n L v wx) (hk : KpM B wx wy) (h1 : r < B) (h2 : B < p) : MkS w r p lo n L v wy := by
  obtain ⟨o1, o2, o3, o4⟩ := h.old
  have hc : ∀ b o, b < wx.heap.size → b ≠ B → wy.cell? ⟨b, o, none⟩ = wx.cell? ⟨b, o, none⟩ ∧ wy.frozen? ⟨b, o, none⟩ = wx.frozen? ⟨b, o, none⟩ := fun b o hb hne => ⟨hk.cell hb hne, hk.frozen hb hne⟩
  exact ⟨h.bel.trans (hk.to_below (by omega) h.bel.size), h.zr.keep hk.size fun o => hc r o (by omega) (by omega), ⟨o1, o2, o3, Nat.le_trans o4 hk.size⟩, (hc p 0 (by omega) (by omega)).1.trans h.c0, (hc p 1 (by omega) (by omega)).1.trans h.c1, (hc p 1 (by omega) (by omega)).2.trans h.f1, kpM_own h.row hk (by omega)⟩
theorem tell_grown {W W' : World} {L B Bt Br Bs n : Nat} {row : Option Nat} (h : TellI W L B Bt Br Bs) (hg : W.grownBy W' row) (hrow : ∀ j, row = some j → n ≤ j) (hn : B < n ∧ Bt < n ∧ Br < n ∧ Bs < n) : TellI W' L B Bt Br Bs := by
  obtain ⟨⟨D, m1, m2⟩, hb⟩ := h
  have hs := hg.size
  have e : ∀ b, b < n → b < W.heap.size → W'.cell? ⟨b, 0, none⟩ = W.cell? ⟨b, 0, none⟩ := fun b h1 h2 => World.cell?_of_block (a := ⟨b, 0, none⟩) (hg.block b h2 fun e => by have := hrow b e.symm; omega)
  obtain ⟨l1, l2, l3⟩ := hb.lt
  exact ⟨⟨D, m1.kept hg (fun e => by have := hrow B e.symm; omega), m2⟩, ⟨(e _ hn.2.1 l1).trans hb.told, (e _ hn.2.2.1 l2).trans hb.rule, (e _ hn.2.2.2 l3).trans hb.tell, ⟨by omega, by omega, by omega⟩, hb.ne⟩⟩

set_option maxRecDepth 100000 in
set_option maxHeartbeats 12000000 in
theorem MakePuzzle_any (l : List UInt8) (k s : Int) (w : World) (hs : l.length ≤ maxLen) :
    Calls Try.prog 14 #[.string (str l), .int .i64 k, .int .i64 s] w (PzAns w (mkOk l k s) l.length (mkLs l k.toNat s)) := by
  have hsz : (str l).size = l.length := str_size l
  have HL := Lib.hid (fun wx => isLine_any (str l) wx (by rw [hsz]; exact hs))
  unfold maxLen at hs
  obtain ⟨W0, hW0⟩ : ∃ W0, W0 = w.alloc (Obj.cells #[.int .i64 0, .slice none 0 0] 30) := ⟨_, rfl⟩
  have hB0 : Below w.heap.size w W0 := by rw [hW0]; exact (Below.refl _ _).alloc (Nat.le_refl _) _
  have hZ : ZBox w.heap.size W0 := by rw [hW0]; exact ZBox.new w
  have m0 := hZ.c0
  have m1 := hZ.c1
  have m2 := hZ.f0
  have m3 := hZ.f1
  cases q0 : goodL (str l)
  · have hb : mkOk l k s = false := by
      unfold mkOk hidB; rw [q0]; rfl
    have HE := Lib.hid (mk_none (k := k) (s := s) (l := l) hb hZ hB0 l.length (mkLs l k.toNat s))
    rw [q0] at HL
    generalize mkOk l k s = b at HE hb ⊢
    generalize mkLs l k.toNat s = L at HE ⊢
    clear hZ hb q0
    obtain ⟨P, hP⟩ : ∃ P, P = PzAns w b l.length L := ⟨_, rfl⟩
    rw [← hP] at HE ⊢
    clear hP
    go_enter Try.func14, Try.ntmps14
    go_wp2_with fail
    rw [← hW0]
    clear hW0
    refine (HL.out _).mono ?_; rintro e w' ⟨rfl, rfl⟩
    go_wp2_with fail
    exact bodyPost_ret (results_pzc (k := 6) (j := 7) rfl _ _ w.heap.size (.int .i64 0) (.slice none 0 0) rfl HE.out.1.1 HE.out.1.2) rfl HE.out.2
  · rw [q0] at HL
    by_cases q1 : (5 : Int) < (l.length : Int)
    · have hb : mkOk l k s = false := by
        unfold mkOk hidB; rw [decide_eq_false (by omega : ¬ l.length ≤ 5), Bool.and_false]; rfl
      have HE := Lib.hid (mk_none (k := k) (s := s) (l := l) hb hZ hB0 l.length (mkLs l k.toNat s))
      generalize mkOk l k s = b at HE hb ⊢
      generalize mkLs l k.toNat s = L at HE ⊢
      clear hZ hb
      obtain ⟨P, hP⟩ : ∃ P, P = PzAns w b l.length L := ⟨_, rfl⟩
      rw [← hP] at HE ⊢
      clear hP
      go_enter Try.func14, Try.ntmps14
      go_wp2_with fail
      rw [← hW0]
      clear hW0
      refine (HL.out _).mono ?_; rintro e w' ⟨rfl, rfl⟩
      go_wp2_with fail
      exact bodyPost_ret (results_pzc (k := 6) (j := 7) rfl _ _ w.heap.size (.int .i64 0) (.slice none 0 0) rfl HE.out.1.1 HE.out.1.2) rfl HE.out.2
    · have z1 := Int.not_lt.1 q1
      clear q1
      by_cases q2 : k < 0
      · have hb : mkOk l k s = false := by
          unfold mkOk inR; rw [show (decide (0 ≤ k) && decide (k ≤ 6)) = false by rw [decide_eq_false (by omega : ¬ 0 ≤ k)]; rfl, Bool.and_false]; rfl
        have HE := Lib.hid (mk_none (k := k) (s := s) (l := l) hb hZ hB0 l.length (mkLs l k.toNat s))
        generalize mkOk l k s = b at HE hb ⊢
        generalize mkLs l k.toNat s = L at HE ⊢
        clear hZ hb
        obtain ⟨P, hP⟩ : ∃ P, P = PzAns w b l.length L := ⟨_, rfl⟩
        rw [← hP] at HE ⊢
        clear hP
        go_enter Try.func14, Try.ntmps14
        go_wp2_with fail
        rw [← hW0]
        clear hW0
        refine (HL.out _).mono ?_; rintro e w' ⟨rfl, rfl⟩
        go_wp2_with fail
        exact bodyPost_ret (results_pzc (k := 6) (j := 7) rfl _ _ w.heap.size (.int .i64 0) (.slice none 0 0) rfl HE.out.1.1 HE.out.1.2) rfl HE.out.2
      · have z2 := Int.not_lt.1 q2
        clear q2
        by_cases q3 : 6 < k
        · have hb : mkOk l k s = false := by
            unfold mkOk inR; rw [show (decide (0 ≤ k) && decide (k ≤ 6)) = false by rw [decide_eq_false (by omega : ¬ k ≤ 6), Bool.and_false], Bool.and_false]; rfl
          have HE := Lib.hid (mk_none (k := k) (s := s) (l := l) hb hZ hB0 l.length (mkLs l k.toNat s))
          generalize mkOk l k s = b at HE hb ⊢
          generalize mkLs l k.toNat s = L at HE ⊢
          clear hZ hb
          obtain ⟨P, hP⟩ : ∃ P, P = PzAns w b l.length L := ⟨_, rfl⟩
          rw [← hP] at HE ⊢
          clear hP
          go_enter Try.func14, Try.ntmps14
          go_wp2_with fail
          rw [← hW0]
          clear hW0
          refine (HL.out _).mono ?_; rintro e w' ⟨rfl, rfl⟩
          go_wp2_with fail
          exact bodyPost_ret (results_pzc (k := 6) (j := 7) rfl _ _ w.heap.size (.int .i64 0) (.slice none 0 0) rfl HE.out.1.1 HE.out.1.2) rfl HE.out.2
        · have z3 := Int.not_lt.1 q3
          clear q3
          by_cases q4 : s < 0
          · have hb : mkOk l k s = false := by
              unfold mkOk; rw [show inR s 0 9999 = false by unfold inR; rw [decide_eq_false (by omega : ¬ 0 ≤ s)]; rfl, Bool.and_false]
            have HE := Lib.hid (mk_none (k := k) (s := s) (l := l) hb hZ hB0 l.length (mkLs l k.toNat s))
            generalize mkOk l k s = b at HE hb ⊢
            generalize mkLs l k.toNat s = L at HE ⊢
            clear hZ hb
            obtain ⟨P, hP⟩ : ∃ P, P = PzAns w b l.length L := ⟨_, rfl⟩
            rw [← hP] at HE ⊢
            clear hP
            go_enter Try.func14, Try.ntmps14
            go_wp2_with fail
            rw [← hW0]
            clear hW0
            refine (HL.out _).mono ?_; rintro e w' ⟨rfl, rfl⟩
            go_wp2_with fail
            exact bodyPost_ret (results_pzc (k := 6) (j := 7) rfl _ _ w.heap.size (.int .i64 0) (.slice none 0 0) rfl HE.out.1.1 HE.out.1.2) rfl HE.out.2
          · have z4 := Int.not_lt.1 q4
            clear q4
            by_cases q5 : 9999 < s
            · have hb : mkOk l k s = false := by
                unfold mkOk; rw [show inR s 0 9999 = false by unfold inR; rw [decide_eq_false (by omega : ¬ s ≤ 9999), Bool.and_false], Bool.and_false]
              have HE := Lib.hid (mk_none (k := k) (s := s) (l := l) hb hZ hB0 l.length (mkLs l k.toNat s))
              generalize mkOk l k s = b at HE hb ⊢
              generalize mkLs l k.toNat s = L at HE ⊢
              clear hZ hb
              obtain ⟨P, hP⟩ : ∃ P, P = PzAns w b l.length L := ⟨_, rfl⟩
              rw [← hP] at HE ⊢
              clear hP
              go_enter Try.func14, Try.ntmps14
              go_wp2_with fail
              rw [← hW0]
              clear hW0
              refine (HL.out _).mono ?_; rintro e w' ⟨rfl, rfl⟩
              go_wp2_with fail
              exact bodyPost_ret (results_pzc (k := 6) (j := 7) rfl _ _ w.heap.size (.int .i64 0) (.slice none 0 0) rfl HE.out.1.1 HE.out.1.2) rfl HE.out.2
            · have z5 := Int.not_lt.1 q5
              clear q5
              have h5 : l.length ≤ 5 := by omega
              have h1 : 0 < l.length := by have := ((goodL_iff (str l)).1 q0).1; omega
              have HOK : Hid (mkOk l k s = true) := Lib.hid (by unfold mkOk hidB inR; rw [q0, decide_eq_true h5, decide_eq_true z2, decide_eq_true z3, decide_eq_true z4, decide_eq_true z5]; rfl)
              rw [HOK.out]
              clear HOK
              obtain ⟨K, rfl⟩ : ∃ K : Nat, k = K := ⟨k.toNat, by omega⟩
              rw [show ((K : Int)).toNat = K from rfl]
              have HRD := Lib.hid (mk_round l h1)
              have HOF := Lib.hid (fun B Bt Br Bs k a wx hk ha (h : TellI wx l.length B Bt Br Bs) => clueOf_any l.length B Bt Br Bs l k a wx rfl q0 h5 hk ha h)
              have HZ := Lib.hid (fun j => mkZs_in (z := s) (by omega) j)
              have HLn := Lib.hid (mkLs_len l s)
              have HW := Lib.hid (fun wx => winning_ex l.length wx)
              have hne : (l.length : Int) ≠ 0 := by omega
              obtain ⟨i0, hi, hz0, hz1, hz2⟩ := info_parts Try.infoC
              have HI := Lib.hid hi
              have HZ0 := Lib.hid hz0
              have HZ1 := Lib.hid hz1
              have HZ2 := Lib.hid hz2
              have HB0 := Lib.hid hB0
              have HZR := Lib.hid hZ
              clear q0 hs hZ hi hz0 hz1 hz2 hB0 m0 m1 m2 m3
              go_enter Try.func14, Try.ntmps14
              go_wp2_with fail
              rw [← hW0]
              clear hW0
              refine (HL.out _).mono ?_; rintro e w' ⟨rfl, rfl⟩
              go_wp2_with fail
              refine (HW.out _).mono ?_; rintro e w1 ⟨B, Bt, Br, Bs, rfl, hT, hle, hb1⟩
              have HS := Lib.hid (MkS.start (HZR.out.step hb1) (HB0.out.trans (hb1.mono HB0.out.size)) (Nat.le_refl _) (l.length : Int))
              have HT := Lib.hid (hT.below ((Below.refl _ _).alloc (Nat.le_refl _) (Obj.cells #[.int .i64 l.length, .slice none 0 0] 30)))
              have HBs : Hid (B < w1.heap.size ∧ Bt < w1.heap.size ∧ Br < w1.heap.size ∧ Bs < w1.heap.size) := Lib.hid ⟨hT.map.lt, hT.box.lt.1, hT.box.lt.2.1, hT.box.lt.2.2⟩
              have HrB : Hid (w.heap.size < B) := Lib.hid (Nat.lt_of_lt_of_le HZR.out.lt hle)
              clear hT hle hb1 HZR HB0 HW HL
              go_wp2_with fail
              go_loopw [10, 11, 12, 44] (fun v9 _ _ v1 wr => ∃ (j : Nat) (z : Int) (v : Value), j ≤ K ∧ v1 = .int .i64 j ∧ v9 = .int .i64 z ∧ Hid (z = mkZs j s) ∧ Hid (MkS w w.heap.size w1.heap.size (w1.heap.size + 1) (l.length : Int) (mkLs l j s) v wr) ∧ Hid (TellI wr l.length B Bt Br Bs)) (fun _ _ _ v1 _ => K - (intOf v1).toNat)
              case atStart => exact ⟨0, s, _, by omega, rfl, rfl, Lib.hid rfl, HS, HT⟩
              case round =>
                obtain ⟨j, z, v, hjk, rfl, rfl, HZE, HM, HTL⟩ := hrel
                obtain ⟨pv, qv, rv, rfl⟩ := own_sliceC HM.out.row
                clear HS HT
                by_cases h0 : j = K
                · subst h0
                  have HE := Lib.hid HM.out.ends
                  have c0 := HM.out.c0
                  have c1 := HM.out.c1
                  have m0 := HM.out.zr.c0
                  have m1 := HM.out.zr.c1
                  have m2 := HM.out.zr.f0
                  have m3 := HM.out.zr.f1
                  go_wp2_with fail
                  refine bodyPost_ret (results_pzc (k := 6) (j := 7) rfl _ _ w.heap.size (.int .i64 l.length) (.slice pv qv rv) rfl HE.out.1 HE.out.2.1) rfl ?_; exact HE.out.2.2
                · have hz : 0 ≤ z ∧ z ≤ 10006 := by rw [HZE.out]; exact HZ.out j
                  have i1 : (0 : Int) ≤ (j : Int) := by omega
                  have i2 : (j : Int) < (K : Int) := by omega
                  obtain ⟨z1, kd, e1, hz1, e2, hk5, hc⟩ := HRD.out z hz
                  have HN1 := Lib.hid (fun wx => numberBehind_any z wx hz)
                  rw [e1] at HN1
                  rcases hc with ⟨rfl, z2, a, e3, hz2, e4, ha, e5, e6⟩ | ⟨hkd, e5, e6⟩
                  · have HN2 := Lib.hid (fun wx => numberBehind_any z1 wx hz1)
                    rw [e3] at HN2
                    have HOV := Lib.hid (fun wx (h : TellI wx l.length B Bt Br Bs) => HOF.out B Bt Br Bs 0 a wx ⟨by omega, by omega⟩ (fun _ => ha) h)
                    rw [show clVal 0 a l = .agg #[.int .i64 0, .int .i64 a, .int .i64 (clV 0 a.toNat l)] by unfold clVal; rw [if_pos rfl]] at HOV
                    rw [Int.tmod_eq_emod_of_nonneg (by omega)] at e4
                    clear e1 e3 HOF hz hk5
                    have HLN : Hid (mkLs l (j + 1) s = mkLs l j s ++ [(0, a, clV 0 a.toNat l)]) := Lib.hid (by rw [mkLs, ← HZE.out, e5])
                    have Hz2 : Hid (z2 = mkZs (j + 1) s) := Lib.hid (by rw [mkZs, ← HZE.out, e6])
                    clear e5 e6 HRD
                    generalize clV 0 a.toNat l = yv at HLN HOV
                    have c1 := HM.out.c1
                    have HLG : Hid ((mkLs l j s).length ≤ 5) := Lib.hid (by rw [HLn.out j]; omega)
                    generalize mkLs l j s = L at HLN HM HLG
                    go_wp2_with fail
                    refine (HN1.out _).mono ?_; rintro e w' ⟨rfl, rfl⟩
                    go_wp2_with fail
                    refine (HN2.out _).mono ?_; rintro e w' ⟨rfl, rfl⟩
                    go_wp2_with fail
                    go_region_law (first
                      | (go_simp; go_at_call 31; refine (HOV.out _ (HTL.out.below (Below.drew (Below.refl _ _)))).mono ?_; rintro e wx ⟨rfl, hTx, hkx⟩; have hKx : KpM B wr wx := (KpM.below (Below.drew (Below.refl _ _))).trans hkx; have hMx := HM.out.kp hKx HrB.out HBs.out.1; have k1 := hMx.c1; have lox := hMx.old.2.2.2; have k2 := (hMx.step ((Below.refl wx.heap.size wx).alloc (Nat.le_refl _) (Obj.cells #[.int .i64 0, .int .i64 a, .int .i64 yv] 34))).c1; clear hkx)
                      | (refine step_append_own (wx.alloc (Obj.cells #[.int .i64 0, .int .i64 a, .int .i64 yv] 34)) rfl _ _ 28 rfl (w1.heap.size + 1) 34 i0 (.agg #[.int .i64 0, .int .i64 0, .int .i64 0]) 3 24 Try.underlying28 HI.out HZ0.out HZ1.out HZ2.out rfl (by decide) (.slice pv qv rv) L.length (flat3 L) rfl (hMx.row.alloc _) ⟨wx.heap.size, 0, none⟩ 1 1 [.int .i64 0, .int .i64 a, .int .i64 yv] rfl rfl (cell_three_new _ _ _ _ _) (three_one _ _ _) (by have := HLG.out; unfold maxLen; omega) (by have := HLG.out; omega) (by simp; omega) ?_; intro v2 w4 ow4 g4; have hB4 : Below (w1.heap.size + 1) wx w4 := Below.grown ((Below.refl _ _).alloc (by omega) _) g4 (by simp; omega) (fun j hj => (hMx.row.lt _ hj).1); have hT4 := tell_grown (n := w1.heap.size + 1) (hTx.below ((Below.refl wx.heap.size wx).alloc (Nat.le_refl _) (Obj.cells #[.int .i64 0, .int .i64 a, .int .i64 yv] 34))) g4 (fun j hj => (hMx.row.lt _ hj).1) (by have := HBs.out; omega); have m1 := (belowC hB4 (k := w1.heap.size) (o := 1) (Nat.lt_succ_self _)).1.trans hMx.c1; have m3 := (belowC hB4 (k := w1.heap.size) (o := 1) (Nat.lt_succ_self _)).2.trans hMx.f1; obtain ⟨p2, q2, r2, rfl⟩ := own_sliceC ow4))
                    all_goals
                      have HN := Lib.hid (hMx.next hB4 (show w4.ownsRow (w1.heap.size + 1) 34 3 (.slice p2 q2 r2) (L ++ [(0, a, yv)]).length (flat3 (L ++ [(0, a, yv)])) from by rw [List.length_append, flat3_app]; exact ow4))
                      have HTN := Lib.hid (hT4.setP w1.heap.size 1 (.slice p2 q2 r2) (by have := HBs.out; omega) (by have := HBs.out; omega) (by have := HBs.out; omega) (by have := HBs.out; omega))
                      clear ow4 g4 hB4 m1 m3 c1 k1 k2 hT4 hMx hKx hTx
                      go_wp2_with fail
                      go_roundw
                      case rel => exact ⟨j + 1, z2, _, by omega, by go_num, rfl, Hz2, by rw [HLN.out]; exact HN, HTN⟩
                      case measure => simp [intOf]; omega
                  · have HOV := Lib.hid (fun wx (h : TellI wx l.length B Bt Br Bs) => HOF.out B Bt Br Bs kd 0 wx hk5 (fun e => absurd e hkd) h)
                    rw [show clVal kd 0 l = .agg #[.int .i64 kd, .int .i64 (clV kd 0 l), .int .i64 0] by unfold clVal; rw [if_neg hkd]] at HOV
                    have hkb : (kd == 0) = false := by simpa using hkd
                    clear e1 HOF hz hkd
                    have HLN : Hid (mkLs l (j + 1) s = mkLs l j s ++ [(kd, clV kd 0 l, 0)]) := Lib.hid (by rw [mkLs, ← HZE.out, e5])
                    have Hz1 : Hid (z1 = mkZs (j + 1) s) := Lib.hid (by rw [mkZs, ← HZE.out, e6])
                    clear e5 e6 HRD
                    generalize clV kd 0 l = yv at HLN HOV
                    have c1 := HM.out.c1
                    have HLG : Hid ((mkLs l j s).length ≤ 5) := Lib.hid (by rw [HLn.out j]; omega)
                    generalize mkLs l j s = L at HLN HM HLG
                    go_wp2_with fail
                    refine (HN1.out _).mono ?_; rintro e w' ⟨rfl, rfl⟩
                    go_wp2_with fail
                    go_region_law (first
                      | (go_simp; go_at_call 31; refine (HOV.out _ (HTL.out.below (Below.drew (Below.refl _ _)))).mono ?_; rintro e wx ⟨rfl, hTx, hkx⟩; have hKx : KpM B wr wx := (KpM.below (Below.drew (Below.refl _ _))).trans hkx; have hMx := HM.out.kp hKx HrB.out HBs.out.1; have k1 := hMx.c1; have lox := hMx.old.2.2.2; have k2 := (hMx.step ((Below.refl wx.heap.size wx).alloc (Nat.le_refl _) (Obj.cells #[.int .i64 kd, .int .i64 yv, .int .i64 0] 34))).c1; clear hkx)
                      | (refine step_append_own (wx.alloc (Obj.cells #[.int .i64 kd, .int .i64 yv, .int .i64 0] 34)) rfl _ _ 28 rfl (w1.heap.size + 1) 34 i0 (.agg #[.int .i64 0, .int .i64 0, .int .i64 0]) 3 24 Try.underlying28 HI.out HZ0.out HZ1.out HZ2.out rfl (by decide) (.slice pv qv rv) L.length (flat3 L) rfl (hMx.row.alloc _) ⟨wx.heap.size, 0, none⟩ 1 1 [.int .i64 kd, .int .i64 yv, .int .i64 0] rfl rfl (cell_three_new _ _ _ _ _) (three_one _ _ _) (by have := HLG.out; unfold maxLen; omega) (by have := HLG.out; omega) (by simp; omega) ?_; intro v2 w4 ow4 g4; have hB4 : Below (w1.heap.size + 1) wx w4 := Below.grown ((Below.refl _ _).alloc (by omega) _) g4 (by simp; omega) (fun j hj => (hMx.row.lt _ hj).1); have hT4 := tell_grown (n := w1.heap.size + 1) (hTx.below ((Below.refl wx.heap.size wx).alloc (Nat.le_refl _) (Obj.cells #[.int .i64 kd, .int .i64 yv, .int .i64 0] 34))) g4 (fun j hj => (hMx.row.lt _ hj).1) (by have := HBs.out; omega); have m1 := (belowC hB4 (k := w1.heap.size) (o := 1) (Nat.lt_succ_self _)).1.trans hMx.c1; have m3 := (belowC hB4 (k := w1.heap.size) (o := 1) (Nat.lt_succ_self _)).2.trans hMx.f1; obtain ⟨p2, q2, r2, rfl⟩ := own_sliceC ow4))
                    all_goals
                      have HN := Lib.hid (hMx.next hB4 (show w4.ownsRow (w1.heap.size + 1) 34 3 (.slice p2 q2 r2) (L ++ [(kd, yv, 0)]).length (flat3 (L ++ [(kd, yv, 0)])) from by rw [List.length_append, flat3_app]; exact ow4))
                      have HTN := Lib.hid (hT4.setP w1.heap.size 1 (.slice p2 q2 r2) (by have := HBs.out; omega) (by have := HBs.out; omega) (by have := HBs.out; omega) (by have := HBs.out; omega))
                      clear ow4 g4 hB4 m1 m3 c1 k1 k2 hT4 hMx hKx hTx
                      go_wp2_with fail
                      go_roundw
                      case rel => exact ⟨j + 1, z1, _, by omega, by go_num, rfl, Hz1, by rw [HLN.out]; exact HN, HTN⟩
                      case measure => simp [intOf]; omega
end Go.Proofs.Ytjnidfleccbdbaa
