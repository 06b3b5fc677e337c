/- Contract: the program tells of all games from a turn, out of those behind. -/
import Derived.Test.YtecmeppkggifeaaGmG
import Derived.Test.YtecmeppkggifeaaGmS
namespace Go.Proofs.Ytecmeppkggifeaa
open Go.RowKit Go.Maps Go.Shelf

abbrev tgV (Bt Br Bs : Nat) : Value := .func (.func 122) #[] #[.pointer (some ⟨Bt, 0, none⟩), .pointer (some ⟨Br, 0, none⟩), .pointer (some ⟨Bs, 0, none⟩)]
/-- What telling of a turn gives. -/
def TelGP (L B Bt Br Bs : Nat) (tm : Bool) (s : List UInt8) (W : World) (e : Ending) (W' : World) : Prop :=
  e = .returned (gV (Gm tm s)) ∧ TelG W' L B Bt Br Bs ∧ KpM B W W'
/-- The turns behind are told of rightly. -/
def TelNext (L B Bt Br Bs : Nat) (tm : Bool) (s : List UInt8) : Prop :=
  ∀ x ∈ nxG tm s, ∀ W, TelG W L B Bt Br Bs → Calls Try.prog 122 #[tnV (!tm) x, .pointer (some ⟨Bt, 0, none⟩), .pointer (some ⟨Br, 0, none⟩), .pointer (some ⟨Bs, 0, none⟩)] W (TelGP L B Bt Br Bs (!tm) x W)
theorem KpM.setNew {B C o : Nat} {w W : World} {u : Value} (h : KpM B w W) (hC : w.heap.size ≤ C) : KpM B w (W.setCell ⟨C, o, none⟩ u) :=
  ⟨h.os, h.tape, h.output, by have := h.size; simpa using this, fun k hne hk => (Below.heap_setCell _ _ _ _ (show k ≠ C by omega)).trans (h.far.2 k hne hk)⟩
theorem KpM.allocNew {B : Nat} {w W : World} (h : KpM B w W) (o : Obj) : KpM B w (W.alloc o) := h.trans (KpM.below ((Below.refl _ _).alloc (Nat.le_refl _) o))
theorem results_gf (tmps : Array Value) (w : World) (g : Nat) (x y z : Value) (hp : tmps.getD 4 undef = .pointer (some ⟨g, 0, none⟩)) (c0 : w.cell? ⟨g, 0, none⟩ = some x) (c1 : w.cell? ⟨g, 1, none⟩ = some y) (c2 : w.cell? ⟨g, 2, none⟩ = some z) :
    (results Try.f111 tmps).run Try.prog w = .ok (.agg #[x, y, z]) w := by
  have hr : Try.f111.results = #[.cell 4 89] := rfl
  unfold results
  rw [hr]
  simp at hp
  simp [hp, asAddr, c0, c1, c2, go_sem]
/-- The least so far, the greatest number ahead of the first. -/
def spF (tm : Bool) (s : List UInt8) (j : Nat) : Int := if j = 0 then 9223372036854775807 else (shK (csK tm s j) : Int)
theorem spF_step (tm : Bool) (s : List UInt8) (j : Nat) (h : j < (gmM tm s).length) (hs : s.length ≤ 100) : spF tm s (j + 1) = min (spF tm s j) (((Gm (!tm) (behind (str s) (gmM tm s)[j].1 (gmM tm s)[j].2)).2.1 : Int) + 1) := by
  have hx : behind (str s) (gmM tm s)[j].1 (gmM tm s)[j].2 ∈ nxG tm s := List.mem_map.2 ⟨_, List.getElem_mem h, rfl⟩
  have hb := (Gm_small (!tm) (s := behind (str s) (gmM tm s)[j].1 (gmM tm s)[j].2) (by have := (mu_less hs hx).2; omega)).2
  unfold spF
  rw [if_neg (by omega), csK_step tm s j h]
  by_cases h0 : j = 0
  · subst h0
    rw [if_pos rfl, csK_zero]
    show (((Gm (!tm) (behind (str s) _ _)).2.1 + 1 : Nat) : Int) = _
    omega
  · have hne : csK tm s j ≠ [] := fun e => by
      have := csK_len (tm := tm) (s := s) (k := j) (by omega)
      rw [e] at this
      exact h0 this.symm
    rw [if_neg h0, shK_snoc hne]
    omega

theorem three_set {W : World} {C : Nat} {x y z : Value} (a b c : Value) (k0 : W.cell? ⟨C, 0, none⟩ = some x) (k1 : W.cell? ⟨C, 1, none⟩ = some y) (k2 : W.cell? ⟨C, 2, none⟩ = some z) :
    (((W.setCell ⟨C, 0, none⟩ a).setCell ⟨C, 1, none⟩ b).setCell ⟨C, 2, none⟩ c).cell? ⟨C, 0, none⟩ = some a ∧ (((W.setCell ⟨C, 0, none⟩ a).setCell ⟨C, 1, none⟩ b).setCell ⟨C, 2, none⟩ c).cell? ⟨C, 1, none⟩ = some b ∧ (((W.setCell ⟨C, 0, none⟩ a).setCell ⟨C, 1, none⟩ b).setCell ⟨C, 2, none⟩ c).cell? ⟨C, 2, none⟩ = some c := by
  refine ⟨?_, ?_, ?_⟩
  · rw [World.cell?_setCell_other _ _ _ _ (by intro e; injection e with _ e; omega), World.cell?_setCell_other _ _ _ _ (by intro e; injection e with _ e; omega)]
    exact World.cell?_setCell_same _ _ _ k0
  · rw [World.cell?_setCell_other _ _ _ _ (by intro e; injection e with _ e; omega)]
    exact World.cell?_setCell_same _ _ _ (by rw [World.cell?_setCell_other _ _ _ _ (by intro e; injection e with _ e; omega)]; exact k1)
  · exact World.cell?_setCell_same _ _ _ (by rw [World.cell?_setCell_other _ _ _ _ (by intro e; injection e with _ e; omega), World.cell?_setCell_other _ _ _ _ (by intro e; injection e with _ e; omega)]; exact k2)
set_option maxRecDepth 100000 in
set_option maxHeartbeats 8000000 in
theorem gamesFrom_any (L B Bt Br Bs : Nat) (tm : Bool) (s : List UInt8) (w : World) (hL : L ≤ 12) (hs : sigT L s) (hN : TelNext L B Bt Br Bs tm s) (hI : TelG w L B Bt Br Bs) :
    Calls Try.prog 111 #[tnV tm s, tgV Bt Br Bs] w (TelGP L B Bt Br Bs tm s w) := by
  have hl100 : s.length ≤ 100 := by have := hs.1; omega
  have hBl := hI.map.lt
  have hlt := hI.box.lt
  have HN := Lib.hid hN
  have HI := Lib.hid hI
  have HM := Lib.hid (fun wx => tnMoves_any tm s wx hl100)
  have hml := gmM_le tm s
  have HAT := Lib.hid (fun (j : Nat) (h : j < (gmM tm s).length) => gm_at (tm := tm) (s := s) j h)
  have HCS := Lib.hid (csK_step tm s)
  have HMN := Lib.hid (mnF_step tm s)
  have HSP := Lib.hid (fun j h => spF_step tm s j h hl100)
  have HSM := Lib.hid (csK_small (tm := tm) hl100)
  have HGS : Hid (∀ x ∈ nxG tm s, (Gm (!tm) x).1 ≤ 20000 ∧ (Gm (!tm) x).2.1 ≤ 20000) := Lib.hid fun x hx => Gm_small (!tm) (by have := (mu_less hl100 hx).2; omega)
  have HEND := Lib.hid (Gm_end tm hl100)
  have HM0 : Hid (mnF tm s 0 = if (gmM tm s).length = 0 then 1 else 0) := Lib.hid (by unfold mnF; rfl)
  have HTN := Lib.hid (fun (a b : Nat) wx (ha : a < s.length) (hb : b < s.length) (hne : a ≠ b) => tnBehind_any tm s a b wx ha hb hne)
  clear hN hI
  go_enter Try.func111, Try.ntmps111
  go_wp2_with fail
  refine (HM.out _).mono ?_
  rintro e w3 ⟨v, rfl, ho3, hb3⟩
  obtain ⟨A, cap, rfl, AT0⟩ := at_of_own ho3
  obtain ⟨Wb, hWb⟩ : ∃ Wb, Wb = (w.alloc (tnB tm s)).alloc (.cells #[.int .i64 0, .int .i64 0, .int .i64 0] 89) := ⟨_, rfl⟩
  have hzb : Wb.heap.size = w.heap.size + 2 := by rw [hWb]; simp
  have hBb : Below w.heap.size w Wb := by rw [hWb]; exact ((Below.refl _ _).alloc (Nat.le_refl _) _).alloc (by simp) _
  have e1 : (w.alloc (tnB tm s)).heap.size = w.heap.size + 1 := by simp
  have c20 : Wb.cell? ⟨w.heap.size, 0, none⟩ = some (.string (str s)) := by rw [hWb, cell_old _ _ _ _ (by omega), World.cell?_alloc_new]; rfl
  have c21 : Wb.cell? ⟨w.heap.size, 1, none⟩ = some (.int .u8 (kd tm).toNat) := by rw [hWb, cell_old _ _ _ _ (by omega), World.cell?_alloc_new]; rfl
  have c4 : Wb.heap[w.heap.size + 1]? = some (.cells #[.int .i64 0, .int .i64 0, .int .i64 0] 89 (0, 0)) := by rw [hWb, ← e1]; exact heap_alloc_new _ _
  rw [← hWb] at ho3 hb3
  have hz3 := hb3.size
  have d20 : w3.cell? ⟨w.heap.size, 0, none⟩ = some (.string (str s)) := (hb3.cell (p := ⟨w.heap.size, 0, none⟩) (by show w.heap.size < _; omega)).trans c20
  have d21 : w3.cell? ⟨w.heap.size, 1, none⟩ = some (.int .u8 (kd tm).toNat) := (hb3.cell (p := ⟨w.heap.size, 1, none⟩) (by show w.heap.size < _; omega)).trans c21
  have d4 : w3.heap[w.heap.size + 1]? = some (.cells #[.int .i64 0, .int .i64 0, .int .i64 0] 89 (0, 0)) := (hb3.block _ (by omega)).trans c4
  have hA : ∀ a, A = some a → Wb.heap.size ≤ a.block ∧ a.block < w3.heap.size := fun a e => by
    subst e
    exact ho3.lt _ rfl
  have HI3 : Hid (TelG w3 L B Bt Br Bs) := Lib.hid (HI.out.below (hBb.trans (hb3.mono (by omega))))
  have HB3 := Lib.hid (hBb.trans (hb3.mono (by omega)))
  have AT := Lib.hid AT0
  have HA := Lib.hid hA
  clear ho3 hb3 hBb hWb c20 c21 c4 AT0 hA
  generalize hMM : gmM tm s = M at HAT HCS HMN HSP HEND HM0 hml AT
  clear hMM
  have f40 : w3.cell? ⟨w.heap.size + 1, 0, none⟩ = some (.int .i64 0) := by simp [World.cell?, d4]
  have f41 : w3.cell? ⟨w.heap.size + 1, 1, none⟩ = some (.int .i64 0) := by simp [World.cell?, d4]
  have f42 : w3.cell? ⟨w.heap.size + 1, 2, none⟩ = some (.int .i64 0) := by simp [World.cell?, d4]
  have z40 : w3.frozen? ⟨w.heap.size + 1, 0, none⟩ = false := by simp [World.frozen?, d4]
  have z41 : w3.frozen? ⟨w.heap.size + 1, 1, none⟩ = false := by simp [World.frozen?, d4]
  have z42 : w3.frozen? ⟨w.heap.size + 1, 2, none⟩ = false := by simp [World.frozen?, d4]
  cases hMc : ((M.length : Int) == 0)
  · have hM0 : M.length ≠ 0 := by have h := hMc; simp at h; intro e; exact h (List.length_eq_zero_iff.1 e)
    go_wp2
    obtain ⟨W4, hW4⟩ : ∃ W4, W4 = w3.alloc (.cells #[.int .i64 0, .int .i64 9223372036854775807, .int .i64 0] 89) := ⟨_, rfl⟩
    have hz4 : W4.heap.size = w3.heap.size + 1 := by rw [hW4]; simp
    have hB4 : Below w3.heap.size w3 W4 := by rw [hW4]; exact (Below.refl _ _).alloc (Nat.le_refl _) _
    have g60 : W4.cell? ⟨w3.heap.size, 0, none⟩ = some (.int .i64 0) := by rw [hW4, World.cell?_alloc_new]; rfl
    have g61 : W4.cell? ⟨w3.heap.size, 1, none⟩ = some (.int .i64 9223372036854775807) := by rw [hW4, World.cell?_alloc_new]; rfl
    have g62 : W4.cell? ⟨w3.heap.size, 2, none⟩ = some (.int .i64 0) := by rw [hW4, World.cell?_alloc_new]; rfl
    have y60 : W4.frozen? ⟨w3.heap.size, 0, none⟩ = false := by rw [hW4]; simp
    have y61 : W4.frozen? ⟨w3.heap.size, 1, none⟩ = false := by rw [hW4]; simp
    have y62 : W4.frozen? ⟨w3.heap.size, 2, none⟩ = false := by rw [hW4]; simp
    have AT4 := Lib.hid (AT.out.below hB4)
    have D4 : Hid (W4.cell? ⟨w.heap.size, 0, none⟩ = some (.string (str s)) ∧ W4.cell? ⟨w.heap.size, 1, none⟩ = some (.int .u8 (kd tm).toNat) ∧ W4.heap[w.heap.size + 1]? = some (.cells #[.int .i64 0, .int .i64 0, .int .i64 0] 89 (0, 0))) :=
      Lib.hid ⟨(hB4.cell (p := ⟨w.heap.size, 0, none⟩) (by show w.heap.size < _; omega)).trans d20, (hB4.cell (p := ⟨w.heap.size, 1, none⟩) (by show w.heap.size < _; omega)).trans d21, (hB4.block _ (by omega)).trans d4⟩
    have HI4 := Lib.hid (HI3.out.below hB4)
    have HK4 : Hid (KpM B w W4) := Lib.hid (KpM.below (HB3.out.trans (hB4.mono (by omega))))
    have hnB : w3.heap.size ≠ B := by omega
    have HNN : Hid (∀ a, A = some a → a.block ≠ B ∧ a.block ≠ w3.heap.size) := Lib.hid fun a e => by have := HA.out a e; omega
    rw [← hW4]
    clear hW4 hB4 d20 d21 d4 f40 f41 f42 z40 z41 z42
    go_loopw [19] (fun t wr => ∃ j : Nat, j ≤ M.length ∧ t = .int .i64 j ∧ Hid (wr.cell? ⟨w3.heap.size, 0, none⟩ = some (.int .i64 (lgK (csK tm s j) : Int)) ∧ wr.cell? ⟨w3.heap.size, 1, none⟩ = some (.int .i64 (spF tm s j)) ∧ wr.cell? ⟨w3.heap.size, 2, none⟩ = some (.int .i64 (mnF tm s j)) ∧ wr.frozen? ⟨w3.heap.size, 0, none⟩ = false ∧ wr.frozen? ⟨w3.heap.size, 1, none⟩ = false ∧ wr.frozen? ⟨w3.heap.size, 2, none⟩ = false) ∧ Hid (TelG wr L B Bt Br Bs) ∧ Hid (KpN B w3.heap.size W4 wr) ∧ Hid (KpM B w wr)) (fun t _ => M.length - (intOf t).toNat)
    case atStart => exact ⟨0, Nat.zero_le _, rfl, Lib.hid ⟨g60, g61, by rw [HM0.out, if_neg hM0]; exact g62, y60, y61, y62⟩, HI4, Lib.hid (KpN.refl _ _ _), HK4⟩
    case round =>
      clear g60 g61 g62 y60 y61 y62
      obtain ⟨j, hj, rfl, HC, HIR, HKN, HKM⟩ := hrel
      have hN4 := HKN.out
      by_cases hltj : j < M.length
      · obtain ⟨gm, rfl, zz, p1, q1⟩ := (AT4.out.kpN hN4 HNN.out) j hltj
        obtain ⟨a, b, e1, e2, ha, hb, hne, hyn, hy⟩ := HAT.out j hltj
        rw [e1] at p1
        rw [e2] at q1
        have hS0 := HCS.out j hltj
        have hN0 := HMN.out j hltj
        have hP0 := HSP.out j hltj
        rw [← hy] at hS0 hN0 hP0
        have hx20 := (hN4.cell (b := w.heap.size) (o := 0) (by omega) (by omega) (by omega)).trans D4.out.1
        have hx21 := (hN4.cell (b := w.heap.size) (o := 1) (by omega) (by omega) (by omega)).trans D4.out.2.1
        have HBH := Lib.hid (fun wx => HTN.out a b wx ha hb hne)
        have HTE := Lib.hid (HN.out _ hyn)
        have hgs := HGS.out _ hyn
        have hsm := HSM.out j
        have HS := Lib.hid hS0
        have HNM := Lib.hid hN0
        have HP := Lib.hid hP0
        clear e1 e2 hy hyn hS0 hN0 hP0
        have j1 : (0 : Int) ≤ (j : Int) := by omega
        have j2 : (j : Int) < (M.length : Int) := by omega
        have hzr := hN4.size
        have hlw : w.heap.size < wr.heap.size := by omega
        have hl6 : w3.heap.size < wr.heap.size := by omega
        go_wp2_with fail
        refine (HBH.out _).mono ?_
        rintro e w5 ⟨rfl, hb5⟩
        have hB5 : Below wr.heap.size wr w5 := ((Below.refl _ _).alloc (Nat.le_refl _) (mvB a b)).trans (hb5.mono (by simp))
        have hz5 := hB5.size
        have HB5 := Lib.hid hB5
        clear hb5 p1 q1 hx20 hx21 hN4
        go_wp2_with fail
        refine (HTE.out _ (HIR.out.below HB5.out)).mono ?_
        rintro e w6 ⟨rfl, hI6, hK6⟩
        have hz6 := hK6.size
        have HI6 := Lib.hid hI6
        have hc : ∀ o, w6.cell? ⟨w3.heap.size, o, none⟩ = wr.cell? ⟨w3.heap.size, o, none⟩ := fun o => (hK6.cell (by omega) (by omega)).trans (hB5.cell (p := ⟨w3.heap.size, o, none⟩) (by show w3.heap.size < _; omega))
        have hfz : ∀ o, w6.frozen? ⟨w3.heap.size, o, none⟩ = wr.frozen? ⟨w3.heap.size, o, none⟩ := fun o => (hK6.frozen (by omega) (by omega)).trans (hB5.frozen (p := ⟨w3.heap.size, o, none⟩) (by show w3.heap.size < _; omega))
        obtain ⟨q0, q1, q2, r0, r1, r2⟩ := HC.out
        have k0 := (hc 0).trans q0
        have k1 := (hc 1).trans q1
        have k2 := (hc 2).trans q2
        have f0 := (hfz 0).trans r0
        have f1 := (hfz 1).trans r1
        have f2 := (hfz 2).trans r2
        have HKM6 := Lib.hid ((HKM.out.trans (KpM.below hB5)).trans hK6)
        have HKN6 := Lib.hid ((HKN.out.trans (KpN.below hB5)).trans (KpN.far hK6))
        clear hI6 hK6 hB5 hc hfz q0 q1 q2 r0 r1 r2 HC
        generalize Gm (!tm) (putL (str s) a b) = c at HS HNM HP hgs
        obtain ⟨ca, cb, cc⟩ := c
        simp only at hgs
        have hl66 : w3.heap.size < w6.heap.size := by omega
        have HL : Hid (lgK (csK tm s (j + 1)) = max (lgK (csK tm s j)) (ca + 1)) := Lib.hid (by rw [HS.out, lgK_snoc])
        have HCA := Lib.hid (And.intro k0 (And.intro k1 k2))
        have HFA := Lib.hid (And.intro f0 (And.intro f1 f2))
        have hM' : Hid (mnF tm s (j + 1) = wrap64 (mnF tm s j + cc)) := HNM
        have hP' : Hid (spF tm s (j + 1) = min (spF tm s j) ((cb : Int) + 1)) := HP
        have HZ : Hid (M.length - (j + 1) < M.length - j) := Lib.hid (by omega)
        generalize hlg : lgK (csK tm s j) = lg at k0 HL HCA hsm
        generalize hsp : spF tm s j = sp at k1 hP' HCA
        generalize hmn : mnF tm s j = mn at k2 hM' HCA
        clear hlg hsp hmn HS HNM HP hsm
        · go_wp2
          go_roundw
          case rel =>
            obtain ⟨n0, n1, n2⟩ := HCA.out
            have q0 : ((lgK (csK tm s (j + 1)) : Nat) : Int) = max (lg : Int) ((ca : Int) + 1) := by rw [HL.out]; omega
            obtain ⟨m0, m1, m2⟩ := three_set (.int .i64 (max (lg : Int) ((ca : Int) + 1))) (.int .i64 (min sp ((cb : Int) + 1))) (.int .i64 (wrap64 (mn + cc))) n0 n1 n2
            refine ⟨j + 1, by omega, by go_num, Lib.hid ?_, Lib.hid ?_, Lib.hid ?_, Lib.hid ?_⟩
            · obtain ⟨v0, v1, v2⟩ := HFA.out
              have hal : ∀ (Wx : World) (o : Obj) (b : Nat), w3.heap.size < Wx.heap.size → (Wx.alloc o).frozen? ⟨w3.heap.size, b, none⟩ = Wx.frozen? ⟨w3.heap.size, b, none⟩ := fun Wx o b h => ((Below.refl Wx.heap.size Wx).alloc (Nat.le_refl _) o).frozen (p := ⟨w3.heap.size, b, none⟩) h
              refine ⟨by rw [q0, cell_old _ _ _ _ (by simpa using hl66)]; exact m0, by rw [hP'.out, cell_old _ _ _ _ (by simpa using hl66)]; exact m1, by rw [hM'.out, cell_old _ _ _ _ (by simpa using hl66)]; exact m2, ?_, ?_, ?_⟩
              · rw [hal _ _ _ (by simpa using hl66), World.frozen?_setCell, World.frozen?_setCell, World.frozen?_setCell]; exact v0
              · rw [hal _ _ _ (by simpa using hl66), World.frozen?_setCell, World.frozen?_setCell, World.frozen?_setCell]; exact v1
              · rw [hal _ _ _ (by simpa using hl66), World.frozen?_setCell, World.frozen?_setCell, World.frozen?_setCell]; exact v2
            · exact (((HI6.out.off hnB (by omega) (by omega) (by omega) 0 _).off hnB (by omega) (by omega) (by omega) 1 _).off hnB (by omega) (by omega) (by omega) 2 _).below ((Below.refl _ _).alloc (Nat.le_refl _) _)
            · exact ((((HKN6.out.trans (KpN.set _ 0 _)).trans (KpN.set _ 1 _)).trans (KpN.set _ 2 _))).trans (KpN.below ((Below.refl _ _).alloc (Nat.le_refl _) _))
            · exact (((HKM6.out.setNew (by omega)).setNew (by omega)).setNew (by omega)).allocNew _
          case measure => simp [intOf]; omega
      · obtain rfl : j = M.length := by omega
        have HE := Lib.hid HEND.out
        have hspe : Hid (spF tm s M.length = (shK (csK tm s M.length) : Int)) := Lib.hid (by unfold spF; rw [if_neg hM0])
        obtain ⟨k0, k1, k2, _, _, _⟩ := HC.out
        have d4 : wr.heap[w.heap.size + 1]? = some (.cells #[.int .i64 0, .int .i64 0, .int .i64 0] 89 (0, 0)) := (hN4.keep _ (by omega) (by omega) (by omega)).trans D4.out.2.2
        have f40 : wr.cell? ⟨w.heap.size + 1, 0, none⟩ = some (.int .i64 0) := by simp [World.cell?, d4]
        have f41 : wr.cell? ⟨w.heap.size + 1, 1, none⟩ = some (.int .i64 0) := by simp [World.cell?, d4]
        have f42 : wr.cell? ⟨w.heap.size + 1, 2, none⟩ = some (.int .i64 0) := by simp [World.cell?, d4]
        have z40 : wr.frozen? ⟨w.heap.size + 1, 0, none⟩ = false := by simp [World.frozen?, d4]
        have z41 : wr.frozen? ⟨w.heap.size + 1, 1, none⟩ = false := by simp [World.frozen?, d4]
        have z42 : wr.frozen? ⟨w.heap.size + 1, 2, none⟩ = false := by simp [World.frozen?, d4]
        rw [hspe.out] at k1
        generalize hla : lgK (csK tm s M.length) = la at k0 HE
        generalize hsa : shK (csK tm s M.length) = sa at k1 HE
        generalize hma : mnF tm s M.length = ma at k2 HE
        clear hla hsa hma hspe HC d4
        go_wp2
        obtain ⟨m0, m1, m2⟩ := three_set (.int .i64 (la : Int)) (.int .i64 (sa : Int)) (.int .i64 ma) f40 f41 f42
        (try simp only [Exit.inBlock, Exit.then]); refine bodyPost_ret (results_gf _ _ (w.heap.size + 1) (.int .i64 (la : Int)) (.int .i64 (sa : Int)) (.int .i64 ma) rfl m0 m1 m2) rfl ⟨by rw [HE.out], ?_, ?_⟩
        · exact ((HIR.out.off (by omega) (by omega) (by omega) (by omega) 0 _).off (by omega) (by omega) (by omega) (by omega) 1 _).off (by omega) (by omega) (by omega) (by omega) 2 _
        · exact ((HKM.out.setNew (by omega)).setNew (by omega)).setNew (by omega)
  · have hM0 : M.length = 0 := by have h := hMc; simp at h; rw [h]; rfl
    have HE := Lib.hid HEND.out
    have HMS := HM0.out
    rw [if_pos hM0] at HMS
    rw [hM0, HMS] at HE
    clear f40 f41 f42
    have f40 : w3.cell? ⟨w.heap.size + 1, 0, none⟩ = some (.int .i64 0) := by simp [World.cell?, d4]
    have f41 : w3.cell? ⟨w.heap.size + 1, 1, none⟩ = some (.int .i64 0) := by simp [World.cell?, d4]
    have f42 : w3.cell? ⟨w.heap.size + 1, 2, none⟩ = some (.int .i64 0) := by simp [World.cell?, d4]
    go_wp2
    (try simp only [Exit.inBlock, Exit.then]); refine bodyPost_ret (results_gf _ _ (w.heap.size + 1) (.int .i64 0) (.int .i64 0) (.int .i64 1) rfl ?_ ?_ ?_) rfl ⟨by rw [HE.out]; rfl, ?_, ?_⟩
    · rw [World.cell?_setCell_other _ _ _ _ (by intro e; injection e with _ e; omega), World.cell?_setCell_other _ _ _ _ (by intro e; injection e with _ e; omega)]
      exact World.cell?_setCell_same _ _ _ f40
    · rw [World.cell?_setCell_other _ _ _ _ (by intro e; injection e with _ e; omega)]
      exact World.cell?_setCell_same _ _ _ (by rw [World.cell?_setCell_other _ _ _ _ (by intro e; injection e with _ e; omega)]; exact f41)
    · exact World.cell?_setCell_same _ _ _ (by rw [World.cell?_setCell_other _ _ _ _ (by intro e; injection e with _ e; omega), World.cell?_setCell_other _ _ _ _ (by intro e; injection e with _ e; omega)]; exact f42)
    · exact ((HI3.out.off (by omega) (by omega) (by omega) (by omega) 0 _).off (by omega) (by omega) (by omega) (by omega) 1 _).off (by omega) (by omega) (by omega) (by omega) 2 _
    · exact (((KpM.below HB3.out).setNew (by omega)).setNew (by omega)).setNew (by omega)
end Go.Proofs.Ytecmeppkggifeaa
