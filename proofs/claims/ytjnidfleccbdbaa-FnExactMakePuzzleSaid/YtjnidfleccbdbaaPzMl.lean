/- Contract: a puzzle made of a line and a seed: the model's. -/
import Derived.Test.YtjnidfleccbdbaaPzMk
namespace Go.Proofs.Ytjnidfleccbdbaa
open Go.RowKit

theorem mk_none {w W : World} {l : List UInt8} {k s : Int} (hb : mkOk l k s = false) (hz : ZBox w.heap.size W) (hB : Below w.heap.size w W) (n : Int) (L : List Cl) :
    (((W.setCell ⟨w.heap.size, 0, none⟩ (.int .i64 0)).setCell ⟨w.heap.size, 1, none⟩ (.slice none 0 0)).cell? ⟨w.heap.size, 0, none⟩ = some (.int .i64 0) ∧ ((W.setCell ⟨w.heap.size, 0, none⟩ (.int .i64 0)).setCell ⟨w.heap.size, 1, none⟩ (.slice none 0 0)).cell? ⟨w.heap.size, 1, none⟩ = some (.slice none 0 0)) ∧ PzAns w (mkOk l k s) n L (.returned (.tuple #[.agg #[.int .i64 0, .slice none 0 0], .bool false])) ((W.setCell ⟨w.heap.size, 0, none⟩ (.int .i64 0)).setCell ⟨w.heap.size, 1, none⟩ (.slice none 0 0)) := by
  have h := hz.fill 0 (.slice none 0 0)
  rw [hb]
  exact ⟨⟨h.c0, h.c1⟩, _, rfl, World.ownsRow_nil _ _ _ _, (hB.setCell (Nat.le_refl _) _).setCell (Nat.le_refl _) _⟩

/-- What is kept while clues are gathered: the answer's box, the puzzle's box, its list. -/
structure MkS (w : World) (r p lo : Nat) (n : Int) (L : List Cl) (v : Value) (wr : World) : Prop where
  bel : Below w.heap.size w wr
  zr : ZBox r wr
  old : w.heap.size ≤ r ∧ r < p ∧ p < lo ∧ lo ≤ wr.heap.size
  c0 : wr.cell? ⟨p, 0, none⟩ = some (.int .i64 n)
  c1 : wr.cell? ⟨p, 1, none⟩ = some v
  f1 : wr.frozen? ⟨p, 1, none⟩ = false
  row : wr.ownsRow lo 34 3 v L.length (flat3 L)
theorem belowC {b : Nat} {w w' : World} (h : Below b w w') {k o : Nat} (hk : k < b) : w'.cell? ⟨k, o, none⟩ = w.cell? ⟨k, o, none⟩ ∧ w'.frozen? ⟨k, o, none⟩ = w.frozen? ⟨k, o, none⟩ :=
  ⟨h.cell (p := ⟨k, o, none⟩) hk, h.frozen (p := ⟨k, o, none⟩) hk⟩
theorem ZBox.keep {b : Nat} {wx wy : World} (h : ZBox b wx) (hs : wx.heap.size ≤ wy.heap.size) (hc : ∀ o, wy.cell? ⟨b, o, none⟩ = wx.cell? ⟨b, o, none⟩ ∧ wy.frozen? ⟨b, o, none⟩ = wx.frozen? ⟨b, o, none⟩) : ZBox b wy :=
  ⟨Nat.lt_of_lt_of_le h.lt hs, (hc 0).1.trans h.c0, (hc 1).1.trans h.c1, (hc 0).2.trans h.f0, (hc 1).2.trans h.f1⟩
theorem MkS.step {w wx wy : World} {r p lo : Nat} {n : Int} {L : List Cl} {v : Value} (h : MkS w r p lo n L v wx) (hb : Below wx.heap.size wx wy) : MkS w r p lo n L v wy := by
  obtain ⟨o1, o2, o3, o4⟩ := h.old
  have hp : p < wx.heap.size := by omega
  exact ⟨h.bel.trans (hb.mono h.bel.size), h.zr.step hb, ⟨o1, o2, o3, Nat.le_trans o4 hb.size⟩, (belowC hb hp).1.trans h.c0, (belowC hb hp).1.trans h.c1, (belowC hb hp).2.trans h.f1, own_below h.row hb⟩
theorem MkS.next {w wx wy : World} {r p lo : Nat} {n : Int} {L L' : List Cl} {v v' : Value} (h : MkS w r p lo n L v wx) (hb : Below lo wx wy) (ho : wy.ownsRow lo 34 3 v' L'.length (flat3 L')) :
    MkS w r p lo n L' v' (wy.setCell ⟨p, 1, none⟩ v') := by
  obtain ⟨o1, o2, o3, o4⟩ := h.old
  have hne : v'.ownBlock ≠ some p := fun e => by have := (ho.lt p e).1; omega
  refine ⟨(h.bel.trans (hb.mono (by omega))).setCell (show w.heap.size ≤ p by omega) _, ?_, ⟨o1, o2, o3, by simpa using Nat.le_trans o4 hb.size⟩, ?_, ?_, ?_, own_setC ho _ _ _ hne⟩
  · refine h.zr.keep (by simpa using hb.size) fun o => ⟨?_, ?_⟩
    · rw [World.cell?_setCell_other _ _ _ _ (by intro e; injection e with e _; omega)]; exact (belowC hb (by omega)).1
    · simpa using (belowC hb (by omega : r < lo)).2
  · rw [World.cell?_setCell_other _ _ _ _ (by intro e; injection e with _ e; omega)]
    exact (belowC hb o3).1.trans h.c0
  · exact World.cell?_setCell_same _ _ _ ((belowC hb o3).1.trans h.c1)
  · simpa using (belowC hb o3).2.trans h.f1
theorem MkS.ends {w W : World} {r p lo : Nat} {n : Int} {L : List Cl} {v : Value} (h : MkS w r p lo n L v W) :
    ((W.setCell ⟨r, 0, none⟩ (.int .i64 n)).setCell ⟨r, 1, none⟩ v).cell? ⟨r, 0, none⟩ = some (.int .i64 n) ∧ ((W.setCell ⟨r, 0, none⟩ (.int .i64 n)).setCell ⟨r, 1, none⟩ v).cell? ⟨r, 1, none⟩ = some v ∧ PzAns w true n L (.returned (.tuple #[.agg #[.int .i64 n, v], .bool true])) ((W.setCell ⟨r, 0, none⟩ (.int .i64 n)).setCell ⟨r, 1, none⟩ v) := by
  obtain ⟨o1, o2, o3, o4⟩ := h.old
  have hf := h.zr.fill n v
  have hne : v.ownBlock ≠ some r := fun e => by have := (h.row.lt r e).1; omega
  exact ⟨hf.c0, hf.c1, v, rfl, own_setC (own_setC (own_lowerC h.row (by omega)) _ _ _ hne) _ _ _ hne, (h.bel.setCell o1 _).setCell o1 _⟩
theorem MkS.start {w W : World} {r : Nat} (h : ZBox r W) (hB : Below w.heap.size w W) (ho : w.heap.size ≤ r) (n : Int) :
    MkS w r W.heap.size (W.heap.size + 1) n [] (.slice none 0 0) (W.alloc (Obj.cells #[.int .i64 n, .slice none 0 0] 30)) := by
  have hb : Below W.heap.size W (W.alloc (Obj.cells #[.int .i64 n, .slice none 0 0] 30)) := (Below.refl _ _).alloc (Nat.le_refl _) _
  have := h.lt
  exact ⟨hB.trans (hb.mono hB.size), h.step hb, ⟨ho, h.lt, Nat.lt_succ_self _, by simp⟩, by rw [cell_new' _ _ _ _ _ rfl]; rfl, by rw [cell_new' _ _ _ _ _ rfl]; rfl, frozen_new' _ _ _ _ _ rfl, World.ownsRow_nil _ _ _ _⟩

set_option maxRecDepth 100000 in
set_option maxHeartbeats 12000000 in
theorem sMakePuzzle_any (l : List UInt8) (k s : Int) (w : World) (hs : l.length ≤ maxLen) :
    Calls Try.prog 13 #[.string (str l), .int .i64 k, .int .i64 s] w (PzAns w (mkOk l k s) l.length (mkLs l k.toNat s)) := by
  have hsz : (str l).size = l.length := str_size l
  have HL := Lib.hid (fun wx => pzLine_any l wx hs)
  obtain ⟨W0, hW0⟩ : ∃ W0, W0 = w.alloc (Obj.cells #[.int .i64 0, .slice none 0 0] 30) := ⟨_, rfl⟩
  have hB0 : Below w.heap.size w W0 := by rw [hW0]; exact (Below.refl _ _).alloc (Nat.le_refl _) _
  have hZ : ZBox w.heap.size W0 := by rw [hW0]; exact ZBox.new w
  have m0 := hZ.c0
  have m1 := hZ.c1
  have m2 := hZ.f0
  have m3 := hZ.f1
  cases hl : hidB l
  · have HE := Lib.hid (mk_none (k := k) (s := s) (l := l) (by unfold mkOk; rw [hl]; rfl) hZ hB0 l.length (mkLs l k.toNat s))
    rw [hl] at HL
    generalize mkOk l k s = b at HE ⊢
    generalize mkLs l k.toNat s = L at HE ⊢
    have HPZ := Lib.hid (rfl : PzAns w b l.length L = PzAns w b l.length L)
    clear hl hsz hs hZ
    obtain ⟨P, hP⟩ : ∃ P, P = PzAns w b l.length L := ⟨_, rfl⟩
    rw [← hP] at HE ⊢
    clear hP HPZ
    generalize str l = st at *
    go_enter Try.func13, Try.ntmps13
    go_wp2_with fail
    rw [← hW0]
    clear hW0
    refine (HL.out _).mono ?_; rintro e w' ⟨rfl, rfl⟩
    go_wp2_with fail
    exact bodyPost_ret (results_pzc (k := 6) (j := 7) rfl _ _ w.heap.size (.int .i64 0) (.slice none 0 0) rfl HE.out.1.1 HE.out.1.2) rfl HE.out.2
  · cases hk : inR k 0 6
    · have HK : Hid (inR k 0 6 = false) := Lib.hid hk
      have HE := Lib.hid (mk_none (k := k) (s := s) (l := l) (by unfold mkOk; rw [hl, hk]; rfl) hZ hB0 l.length (mkLs l k.toNat s))
      rw [hl] at HL
      generalize mkOk l k s = b at HE ⊢
      generalize mkLs l k.toNat s = L at HE ⊢
      clear hl hsz hs hZ hk
      obtain ⟨P, hP⟩ : ∃ P, P = PzAns w b l.length L := ⟨_, rfl⟩
      rw [← hP] at HE ⊢
      clear hP
      generalize str l = st at *
      go_enter Try.func13, Try.ntmps13
      go_wp2_with fail
      rw [← hW0]
      clear hW0
      refine (HL.out _).mono ?_; rintro e w' ⟨rfl, rfl⟩
      go_wp2_with fail
      refine (l1In_any _ _ _ _).mono ?_; rintro e w' ⟨rfl, rfl⟩; rw [HK.out]
      go_wp2_with fail
      exact bodyPost_ret (results_pzc (k := 6) (j := 7) rfl _ _ w.heap.size (.int .i64 0) (.slice none 0 0) rfl HE.out.1.1 HE.out.1.2) rfl HE.out.2
    · cases hq : inR s 0 9999
      · have HK : Hid (inR k 0 6 = true) := Lib.hid hk
        have HQ : Hid (inR s 0 9999 = false) := Lib.hid hq
        have HE := Lib.hid (mk_none (k := k) (s := s) (l := l) (by unfold mkOk; rw [hl, hk, hq]; rfl) hZ hB0 l.length (mkLs l k.toNat s))
        rw [hl] at HL
        generalize mkOk l k s = b at HE ⊢
        generalize mkLs l k.toNat s = L at HE ⊢
        clear hl hsz hs hZ hk hq
        obtain ⟨P, hP⟩ : ∃ P, P = PzAns w b l.length L := ⟨_, rfl⟩
        rw [← hP] at HE ⊢
        clear hP
        generalize str l = st at *
        go_enter Try.func13, Try.ntmps13
        go_wp2_with fail
        rw [← hW0]
        clear hW0
        refine (HL.out _).mono ?_; rintro e w' ⟨rfl, rfl⟩
        go_wp2_with fail
        refine (l1In_any _ _ _ _).mono ?_; rintro e w' ⟨rfl, rfl⟩; rw [HK.out]
        go_wp2_with fail
        refine (l1In_any _ _ _ _).mono ?_; rintro e w' ⟨rfl, rfl⟩; rw [HQ.out]
        go_wp2_with fail
        exact bodyPost_ret (results_pzc (k := 6) (j := 7) rfl _ _ w.heap.size (.int .i64 0) (.slice none 0 0) rfl HE.out.1.1 HE.out.1.2) rfl HE.out.2
      · have HOK : Hid (mkOk l k s = true) := Lib.hid (by unfold mkOk; rw [hl, hk, hq]; rfl)
        rw [HOK.out]
        clear HOK
        have HK : Hid (inR k 0 6 = true) := Lib.hid hk
        have HQ : Hid (inR s 0 9999 = true) := Lib.hid hq
        have hk6 : 0 ≤ k ∧ k ≤ 6 := by unfold inR at hk; simpa using hk
        have hs9 : 0 ≤ s ∧ s ≤ 9999 := by unfold inR at hq; simpa using hq
        obtain ⟨hg, h5⟩ : goodL (str l) = true ∧ l.length ≤ 5 := by simpa [hidB] using hl
        have h1 : 0 < l.length := by have := ((goodL_iff (str l)).1 hg).1; omega
        rw [hl] at HL
        obtain ⟨K, rfl⟩ : ∃ K : Nat, k = K := ⟨k.toNat, by omega⟩
        rw [show ((K : Int)).toNat = K from rfl]
        have HS := Lib.hid (MkS.start hZ hB0 (Nat.le_refl _) (l.length : Int))
        have HRD := Lib.hid (mk_round l h1)
        have HOF := Lib.hid (fun k a wx hk ha => pzOf_any l k a wx hg h5 hk ha)
        have HZ := Lib.hid (fun j => mkZs_in (z := s) (by omega) j)
        have HLn := Lib.hid (mkLs_len l s)
        have hne : (l.length : Int) ≠ 0 := by omega
        obtain ⟨i0, hi, hz0, hz1, hz2⟩ := info_parts Try.infoC
        have HI := Lib.hid hi
        have HZ0 := Lib.hid hz0
        have HZ1 := Lib.hid hz1
        have HZ2 := Lib.hid hz2
        have hW0s : W0.heap.size = w.heap.size + 1 := by rw [hW0]; simp
        have HWs := Lib.hid hW0s
        clear hl hk hq hs hZ hi hz0 hz1 hz2 hB0 m0 m1 m2 m3 hW0s
        go_enter Try.func13, Try.ntmps13
        go_wp2_with fail
        rw [← hW0]
        clear hW0
        refine (HL.out _).mono ?_; rintro e w' ⟨rfl, rfl⟩
        go_wp2_with fail
        refine (l1In_any _ _ _ _).mono ?_; rintro e w' ⟨rfl, rfl⟩; rw [HK.out]
        go_wp2_with fail
        refine (l1In_any _ _ _ _).mono ?_; rintro e w' ⟨rfl, rfl⟩; rw [HQ.out]
        go_wp2_with fail
        go_loopw [1, 9, 10, 11] (fun v1 v9 _ _ wr => ∃ (j q : Nat) (z : Int) (v : Value), j + q = K ∧ v1 = .int .i64 q ∧ v9 = .int .i64 z ∧ Hid (z = mkZs j s) ∧ Hid (MkS w w.heap.size W0.heap.size (W0.heap.size + 1) (l.length : Int) (mkLs l j s) v wr)) (fun v1 _ _ _ _ => (intOf v1).toNat)
        case atStart => exact ⟨0, K, s, _, by omega, rfl, rfl, Lib.hid rfl, HS⟩
        case round =>
          obtain ⟨j, q, z, v, hjq, rfl, rfl, HZE, HM⟩ := hrel
          obtain ⟨pv, qv, rv, rfl⟩ := own_sliceC HM.out.row
          clear HS
          by_cases h0 : q = 0
          · subst h0
            obtain rfl : j = K := by omega
            rw [show ((0 : Nat) : Int) = 0 from rfl]
            have HE := Lib.hid HM.out.ends
            have c0 := HM.out.c0
            have c1 := HM.out.c1
            have m0 := HM.out.zr.c0
            have m1 := HM.out.zr.c1
            have m2 := HM.out.zr.f0
            have m3 := HM.out.zr.f1
            go_wp2_with fail
            refine bodyPost_ret (results_pzc (k := 6) (j := 7) rfl _ _ w.heap.size (.int .i64 l.length) (.slice pv qv rv) rfl HE.out.1 HE.out.2.1) rfl ?_; exact HE.out.2.2
          · have hz : 0 ≤ z ∧ z ≤ 10006 := by rw [HZE.out]; exact HZ.out j
            obtain ⟨z1, kd, e1, hz1, e2, hk5, hc⟩ := HRD.out z hz
            have HN1 := Lib.hid (fun wx => pzNext_any z wx hz)
            rw [e1] at HN1
            rcases hc with ⟨rfl, z2, a, e3, hz2, e4, ha, e5, e6⟩ | ⟨hkd, e5, e6⟩
            · have HN2 := Lib.hid (fun wx => pzNext_any z1 wx hz1)
              rw [e3] at HN2
              have HOV := Lib.hid (fun wx => HOF.out 0 a wx ⟨by omega, by omega⟩ ha)
              rw [show clVal 0 a l = .agg #[.int .i64 0, .int .i64 a, .int .i64 (clV 0 a.toNat l)] by unfold clVal; rw [if_pos rfl]] at HOV
              rw [Int.tmod_eq_emod_of_nonneg (by omega)] at e4
              clear e1 e3 HOF hz hk5
              have HLN : Hid (mkLs l (j + 1) s = mkLs l j s ++ [(0, a, clV 0 a.toNat l)]) := Lib.hid (by rw [mkLs, ← HZE.out, e5])
              have HZN : Hid (z2 = mkZs (j + 1) s) := Lib.hid (by rw [mkZs, ← HZE.out, e6])
              clear e5 e6 HL HRD
              generalize clV 0 a.toNat l = yv at HLN HOV
              have c1 := HM.out.c1
              have o4 := HM.out.old.2.2.2
              have HK : Hid (∀ w', Below (W0.heap.size + 1) wr w' → w'.cell? ⟨W0.heap.size, 1, none⟩ = some (.slice pv qv rv)) := Lib.hid fun w' hb => (belowC hb (Nat.lt_succ_self _)).1.trans HM.out.c1
              have HLG : Hid ((mkLs l j s).length ≤ 5) := Lib.hid (by rw [HLn.out j]; omega)
              have hpq : (0 : Int) < (q : Int) := by omega
              have hwq : IntKind.i64.wrap ((q : Int) - 1) = (q : Int) - 1 := by rw [IntKind.wrap_i64]; omega
              generalize mkLs l j s = L at HLN HM HLG
              go_wp2_with fail
              refine (HN1.out _).mono ?_; rintro e w' ⟨rfl, rfl⟩
              go_wp2_with fail
              refine (HN2.out _).mono ?_; rintro e w' ⟨rfl, rfl⟩
              go_wp2_with fail
              go_region_law (first
                | (go_simp; go_at_call 27; refine (HOV.out _).mono ?_; rintro e wx ⟨rfl, hbx⟩; have hBx : Below (W0.heap.size + 1) wr wx := (Below.drew (Below.refl _ _)).trans (hbx.mono (show W0.heap.size + 1 ≤ wr.heap.size from o4)); have szx := hBx.size; have hBy : Below wr.heap.size wr wx := (Below.drew (Below.refl _ _)).trans hbx; have k1 := HK.out _ hBx; have k2 := HK.out (wx.alloc (Obj.cells #[.int .i64 0, .int .i64 a, .int .i64 yv] 34)) (hBx.alloc (by omega) _); clear hbx)
                | (refine step_append_own (wx.alloc (Obj.cells #[.int .i64 0, .int .i64 a, .int .i64 yv] 34)) rfl _ _ 28 rfl (W0.heap.size + 1) 34 i0 (.agg #[.int .i64 0, .int .i64 0, .int .i64 0]) 3 24 Try.underlying28 HI.out HZ0.out HZ1.out HZ2.out rfl (by decide) (.slice pv qv rv) L.length (flat3 L) rfl ((own_below HM.out.row hBy).alloc _) ⟨wx.heap.size, 0, none⟩ 1 1 [.int .i64 0, .int .i64 a, .int .i64 yv] rfl rfl (cell_three_new _ _ _ _ _) (three_one _ _ _) (by have := HLG.out; unfold maxLen; omega) (by have := HLG.out; omega) (by simp; omega) ?_; intro v2 w4 ow4 g4; have hB4 : Below (W0.heap.size + 1) wr w4 := Below.grown (hBx.alloc (by omega) _) g4 (by simp; omega) (fun j hj => (HM.out.row.lt _ hj).1); have m1 := (HK.out _ hB4); have m3 := (belowC hB4 (Nat.lt_succ_self _)).2.trans HM.out.f1; obtain ⟨p2, q2, r2, rfl⟩ := own_sliceC ow4))
              all_goals
                have HN := Lib.hid (HM.out.next hB4 (show w4.ownsRow (W0.heap.size + 1) 34 3 (.slice p2 q2 r2) (L ++ [(0, a, yv)]).length (flat3 (L ++ [(0, a, yv)])) from by rw [List.length_append, flat3_app]; exact ow4))
                clear ow4 g4 hB4 hBx hBy m1 m3 c1
                go_wp2_with fail
                go_roundw
                case rel => exact ⟨j + 1, q - 1, z2, _, by omega, by go_num, rfl, HZN, by rw [HLN.out]; exact HN⟩
                case measure => simp [intOf]; omega
            · have HOV := Lib.hid (fun wx => HOF.out kd 0 wx hk5 ⟨by omega, by omega⟩)
              rw [show clVal kd 0 l = .agg #[.int .i64 kd, .int .i64 (clV kd 0 l), .int .i64 0] by unfold clVal; rw [if_neg hkd]] at HOV
              have hkb : (kd == 0) = false := by simpa using hkd
              clear e1 HOF hz hkd
              have HLN : Hid (mkLs l (j + 1) s = mkLs l j s ++ [(kd, clV kd 0 l, 0)]) := Lib.hid (by rw [mkLs, ← HZE.out, e5])
              have HZN : Hid (z1 = mkZs (j + 1) s) := Lib.hid (by rw [mkZs, ← HZE.out, e6])
              clear e5 e6 HL HRD
              generalize clV kd 0 l = yv at HLN HOV
              have c1 := HM.out.c1
              have o4 := HM.out.old.2.2.2
              have HK : Hid (∀ w', Below (W0.heap.size + 1) wr w' → w'.cell? ⟨W0.heap.size, 1, none⟩ = some (.slice pv qv rv)) := Lib.hid fun w' hb => (belowC hb (Nat.lt_succ_self _)).1.trans HM.out.c1
              have HLG : Hid ((mkLs l j s).length ≤ 5) := Lib.hid (by rw [HLn.out j]; omega)
              have hpq : (0 : Int) < (q : Int) := by omega
              have hwq : IntKind.i64.wrap ((q : Int) - 1) = (q : Int) - 1 := by rw [IntKind.wrap_i64]; omega
              generalize mkLs l j s = L at HLN HM HLG
              go_wp2_with fail
              refine (HN1.out _).mono ?_; rintro e w' ⟨rfl, rfl⟩
              go_wp2_with fail
              go_region_law (first
                | (go_simp; go_at_call 27; refine (HOV.out _).mono ?_; rintro e wx ⟨rfl, hbx⟩; have hBx : Below (W0.heap.size + 1) wr wx := (Below.drew (Below.refl _ _)).trans (hbx.mono (show W0.heap.size + 1 ≤ wr.heap.size from o4)); have szx := hBx.size; have hBy : Below wr.heap.size wr wx := (Below.drew (Below.refl _ _)).trans hbx; have k1 := HK.out _ hBx; have k2 := HK.out (wx.alloc (Obj.cells #[.int .i64 kd, .int .i64 yv, .int .i64 0] 34)) (hBx.alloc (by omega) _); clear hbx)
                | (refine step_append_own (wx.alloc (Obj.cells #[.int .i64 kd, .int .i64 yv, .int .i64 0] 34)) rfl _ _ 28 rfl (W0.heap.size + 1) 34 i0 (.agg #[.int .i64 0, .int .i64 0, .int .i64 0]) 3 24 Try.underlying28 HI.out HZ0.out HZ1.out HZ2.out rfl (by decide) (.slice pv qv rv) L.length (flat3 L) rfl ((own_below HM.out.row hBy).alloc _) ⟨wx.heap.size, 0, none⟩ 1 1 [.int .i64 kd, .int .i64 yv, .int .i64 0] rfl rfl (cell_three_new _ _ _ _ _) (three_one _ _ _) (by have := HLG.out; unfold maxLen; omega) (by have := HLG.out; omega) (by simp; omega) ?_; intro v2 w4 ow4 g4; have hB4 : Below (W0.heap.size + 1) wr w4 := Below.grown (hBx.alloc (by omega) _) g4 (by simp; omega) (fun j hj => (HM.out.row.lt _ hj).1); have m1 := (HK.out _ hB4); have m3 := (belowC hB4 (Nat.lt_succ_self _)).2.trans HM.out.f1; obtain ⟨p2, q2, r2, rfl⟩ := own_sliceC ow4))
              all_goals
                have HN := Lib.hid (HM.out.next hB4 (show w4.ownsRow (W0.heap.size + 1) 34 3 (.slice p2 q2 r2) (L ++ [(kd, yv, 0)]).length (flat3 (L ++ [(kd, yv, 0)])) from by rw [List.length_append, flat3_app]; exact ow4))
                clear ow4 g4 hB4 hBx hBy m1 m3 c1
                go_wp2_with fail
                go_roundw
                case rel => exact ⟨j + 1, q - 1, z1, _, by omega, by go_num, rfl, HZN, by rw [HLN.out]; exact HN⟩
                case measure => simp [intOf]; omega
end Go.Proofs.Ytjnidfleccbdbaa
