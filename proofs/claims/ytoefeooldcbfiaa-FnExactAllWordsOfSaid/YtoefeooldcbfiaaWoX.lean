/- Contract: all words that lead to some ends, the program's search. -/
import Derived.Test.YtoefeooldcbfiaaWoQ
import Derived.Deep.AppendLies
import Derived.Lib.SlBytesConst
namespace Go.Proofs.Ytoefeooldcbfiaa
open Go.RowKit Go.Maps

/-- Does a line lead to one of some ends? -/
noncomputable def leadB (ends : List (List UInt8)) (y : List UInt8) : Bool := @decide (Ld ends y) (Classical.propDecidable _)
theorem leadB_iff (ends : List (List UInt8)) (y : List UInt8) : leadB ends y = true ↔ Ld ends y := by
  unfold leadB
  exact @decide_eq_true_iff _ (Classical.propDecidable _)
theorem leadB_mem {ends M : List (List UInt8)} (h : ∀ v, v ∈ M ↔ Ld ends v) (y : List UInt8) : decide (y ∈ M) = leadB ends y := by
  rw [Bool.eq_iff_iff, decide_eq_true_iff, leadB_iff, h]
/-- Words with lines, as cells. -/
def pcells (B : List (List UInt8 × List UInt8)) : List Value := B.flatMap fun b => [.string (str b.1), .string (str b.2)]
theorem pcells_len (B : List (List UInt8 × List UInt8)) : (pcells B).length = B.length * 2 := by
  induction B with
  | nil => rfl
  | cons b B ih => simp [pcells] at ih ⊢; omega
theorem pcells_app (A B : List (List UInt8 × List UInt8)) : pcells (A ++ B) = pcells A ++ pcells B := by simp [pcells]
theorem pcells_at : ∀ (B : List (List UInt8 × List UInt8)) (k : Nat) (h : k < B.length), (pcells B)[k * 2]? = some (.string (str B[k].1)) ∧ (pcells B)[k * 2 + 1]? = some (.string (str B[k].2))
  | b :: B, 0, _ => by simp [pcells]
  | b :: B, k + 1, h => by
    have ih := pcells_at B k (by simpa using h)
    have e : pcells (b :: B) = .string (str b.1) :: .string (str b.2) :: pcells B := by simp [pcells]
    rw [e, show (k + 1) * 2 = k * 2 + 1 + 1 by omega]
    simpa using ih
theorem Try.infoW : (Try.prog.info? 86).map (fun i => (i.zero, i.size, i.bytes)) = some (some (.agg #[.string ByteArray.empty, .string ByteArray.empty]), 2, 32) := by kernel_rfl
/-- A row of words with lines, opened. -/
theorem prow_open {w : World} {base n : Nat} {e : TypeId} {v : Value} {B : List (List UInt8 × List UInt8)} (h : w.ownsRow base e 2 v n (pcells B)) (hn : B.length = n) : ∃ A cap, v = .slice A n cap ∧ ∀ k (h : k < B.length), ∃ g, A = some ⟨g, 0, none⟩ ∧ base ≤ g ∧ g < w.heap.size ∧ w.cell? ⟨g, k * 2, none⟩ = some (.string (str B[k].1)) ∧ w.cell? ⟨g, k * 2 + 1, none⟩ = some (.string (str B[k].2)) := by
  rcases h.2 with ⟨hv, h0⟩ | ⟨g, cap, cur, rfl, hg, hh, hc, _⟩
  · exact ⟨none, 0, by rw [hv, h0], fun k hk => by omega⟩
  · refine ⟨_, cap, rfl, fun k hk => ⟨g, rfl, hg, (Array.getElem?_eq_some_iff.1 hh).1, ?_⟩⟩
    have f := pcells_at B k hk
    exact ⟨(h.cellAt (k * 2) (by omega)).trans f.1, (h.cellAt (k * 2 + 1) (by omega)).trans f.2⟩
/-- What the moves of some kinds add. -/
def stepP (lead : List UInt8 → Bool) (u y : List UInt8) (cs : List UInt8) : List (List UInt8 × List UInt8) := ((cs.filterMap fun c => (sgW c y).map fun z => (c, z)).filter fun p => lead p.2).map fun p => (u ++ [p.1], p.2)
theorem stepP_none {lead : List UInt8 → Bool} {u y : List UInt8} (cs : List UInt8) {c : UInt8} (h : sgW c y = none) : stepP lead u y (cs ++ [c]) = stepP lead u y cs := by
  unfold stepP
  rw [List.filterMap_append, List.filter_append, List.map_append]
  simp [h]
theorem stepP_no {lead : List UInt8 → Bool} {u y z : List UInt8} (cs : List UInt8) {c : UInt8} (h : sgW c y = some z) (hl : lead z = false) : stepP lead u y (cs ++ [c]) = stepP lead u y cs := by
  unfold stepP
  rw [List.filterMap_append, List.filter_append, List.map_append]
  simp [h, hl]
theorem stepP_yes {lead : List UInt8 → Bool} {u y z : List UInt8} (cs : List UInt8) {c : UInt8} (h : sgW c y = some z) (hl : lead z = true) : stepP lead u y (cs ++ [c]) = stepP lead u y cs ++ [(u ++ [c], z)] := by
  unfold stepP
  rw [List.filterMap_append, List.filter_append, List.map_append]
  simp [h, hl]
theorem nxtB_take (lead : List UInt8 → Bool) (B : List (List UInt8 × List UInt8)) (k : Nat) (h : k < B.length) : nxtB sgW lead (B.take (k + 1)) = nxtB sgW lead (B.take k) ++ stepP lead B[k].1 B[k].2 [70, 84] := by
  unfold nxtB
  rw [List.take_succ_eq_append_getElem h, List.flatMap_append]
  simp [stepP, stepW]
theorem stepP_le (lead : List UInt8 → Bool) (u y : List UInt8) (cs : List UInt8) : (stepP lead u y cs).length ≤ cs.length := by
  unfold stepP
  rw [List.length_map]
  exact Nat.le_trans (List.length_filter_le _ _) (List.length_filterMap_le _ _)
/-- What the innermost loop looks at, apart from what it makes. -/
structure Wsg (W : World) (gb gs : Nat) (u y : List UInt8) (v : Value) : Prop where
  c0 : W.cell? ⟨gb, 0, none⟩ = some (.string (str u))
  c1 : W.cell? ⟨gb, 1, none⟩ = some (.string (str y))
  s0 : W.cell? ⟨gs, 0, none⟩ = some (.int .u8 70)
  s1 : W.cell? ⟨gs, 1, none⟩ = some (.int .u8 84)
  l1 : gb < W.heap.size
  l2 : gs < W.heap.size
  n1 : v.ownBlock ≠ some gb
  n2 : v.ownBlock ≠ some gs
theorem Wsg.below {W W' : World} {gb gs : Nat} {u y : List UInt8} {v : Value} (h : Wsg W gb gs u y v) (hb : Below W.heap.size W W') : Wsg W' gb gs u y v :=
  ⟨(hb.cell (p := ⟨gb, 0, none⟩) h.l1).trans h.c0, (hb.cell (p := ⟨gb, 1, none⟩) h.l1).trans h.c1, (hb.cell (p := ⟨gs, 0, none⟩) h.l2).trans h.s0, (hb.cell (p := ⟨gs, 1, none⟩) h.l2).trans h.s1, Nat.lt_of_lt_of_le h.l1 hb.size, Nat.lt_of_lt_of_le h.l2 hb.size, h.n1, h.n2⟩
theorem Wsg.app {W W' : World} {gb gs g n cap : Nat} {u y : List UInt8} {v : Value} (h : Wsg W gb gs u y v) (hg : W.grownBy W' v.ownBlock) (hw : v.ownBlock = some g ∨ g = W.heap.size) : Wsg W' gb gs u y (.slice (some ⟨g, 0, none⟩) n cap) := by
  refine ⟨hg.cell h.c0 (fun e => h.n1 e.symm), hg.cell h.c1 (fun e => h.n1 e.symm), hg.cell h.s0 (fun e => h.n2 e.symm), hg.cell h.s1 (fun e => h.n2 e.symm), Nat.lt_of_lt_of_le h.l1 hg.size, Nat.lt_of_lt_of_le h.l2 hg.size, ?_, ?_⟩
  · intro e
    have e : g = gb := by injection e
    subst e
    rcases hw with hw | hw
    · exact h.n1 hw
    · have := h.l1; omega
  · intro e
    have e : g = gs := by injection e
    subst e
    rcases hw with hw | hw
    · exact h.n2 hw
    · have := h.l2; omega

/-- The row that is being made, and the map. -/
structure Wx (W wr0 : World) (bm : Nat) (D : DataW Unit) (N : List (List UInt8 × List UInt8)) (v : Value) : Prop where
  row : W.ownsRow wr0.heap.size 86 2 v N.length (pcells N)
  map : W.ownsMap Try.prog 9 bdR bm 59049 D
  bel : Below wr0.heap.size wr0 W
  bm : bm < wr0.heap.size
theorem Wx.below {W W' wr0 : World} {bm : Nat} {D : DataW Unit} {N : List (List UInt8 × List UInt8)} {v : Value} (h : Wx W wr0 bm D N v) (hb : Below W.heap.size W W') : Wx W' wr0 bm D N v :=
  ⟨own_below h.row hb, h.map.kept (grown_of_below hb) (by intro e; cases e), h.bel.trans (hb.mono h.bel.size), h.bm⟩

theorem two_made (w : World) (a b : Value) (t : TypeId) : (w.alloc (.cells #[a, b] t)).ownsRow w.heap.size t 2 (.slice (some ⟨w.heap.size, 0, none⟩) 1 1) 1 [a, b] := by
  refine ⟨rfl, .inr ⟨w.heap.size, 1, #[a, b], rfl, Nat.le_refl _, ?_, Nat.le_refl _, by simp [maxLen], rfl, rfl⟩⟩
  show (w.heap.push _)[w.heap.size]? = _
  simp
theorem it_good {n : Nat} {x : List UInt8} (hx : goodT n x) (lead : List UInt8 → Bool) (r : Nat) : ∀ b ∈ itB sgW lead x r, goodT n b.2 ∧ b.1.length = r := by
  intro b hb
  have h0 := it_run lead x r b hb
  refine ⟨?_, h0.2.1⟩
  have h1 := h0.1
  clear h0 hb
  obtain ⟨u, y⟩ := b
  replace h1 : runW sgW x u = some y := h1
  show goodT n y
  induction u generalizing x with
  | nil => injection h1 with h1; rw [← h1]; exact hx
  | cons c u ih =>
    replace h1 : ((sgW c x).bind fun z => runW sgW z u) = some y := h1
    cases hz : sgW c x with
    | none => rw [hz] at h1; cases h1
    | some z =>
      rw [hz] at h1
      exact ih ((steps_line n).keeps _ _ hx (sgW_nx hz)) h1

set_option maxRecDepth 100000 in
set_option maxHeartbeats 8000000 in
theorem wordsTo_any (n : Nat) (ends : List (List UInt8)) (A : Option Addr) (c : Nat) (x : List UInt8) (m : Nat) (w : World) (hat : StAt w A ends) (hg : ∀ e ∈ ends, goodT n e) (hl : ends.length ≤ 60000) (hx : goodT n x) (hm : m ≤ 40) :
    Calls Try.prog 42 #[.slice A ends.length c, .string (str x), .int .i64 m] w fun e w' => ∃ v, e = .returned v ∧ w'.ownsRow w.heap.size 9 1 v ((itB sgW (leadB ends) x m).map (·.1)).length (txs ((itB sgW (leadB ends) x m).map (·.1))) ∧ Below w.heap.size w w' := by
  obtain ⟨i0, hi, hz0, hz1, hz2⟩ := info_parts Try.infoW
  have HI := Lib.hid hi
  have HZ0 := Lib.hid hz0
  have HZ1 := Lib.hid hz1
  have HZ2 := Lib.hid hz2
  obtain ⟨j0, ji, jz0, jz1, jz2⟩ := info_parts Try.infoS
  have JI := Lib.hid ji
  have JZ0 := Lib.hid jz0
  have JZ1 := Lib.hid jz1
  have JZ2 := Lib.hid jz2
  have HN := Lib.hid hat
  have HG := Lib.hid hg
  have HX := Lib.hid hx
  clear hi hz0 hz1 hz2 ji jz0 jz1 jz2 hat hg hx
  go_enter Try.func42, Try.ntmps42
  go_wp2_with fail
  refine (leading_any n ends A c _ HN.out HG.out hl).mono ?_
  rintro e w1 ⟨bm, D, M, rfl, hbm, hmap, hV, hM, hb1⟩
  have HMAP := Lib.hid hmap
  have HV := Lib.hid hV
  have HM := Lib.hid (leadB_mem hM)
  have HB1 := Lib.hid hb1
  clear hmap hV hM hb1
  go_wp2
  go_loopw [8, 26] (fun v t wr => ∃ (r : Nat), r ≤ m ∧ t = .int .i64 r ∧ Hid (wr.ownsRow w1.heap.size 86 2 v (itB sgW (leadB ends) x r).length (pcells (itB sgW (leadB ends) x r))) ∧ Below w1.heap.size w1 wr) (fun _ t _ => m - (intOf t).toNat)
  case atStart =>
    refine ⟨0, Nat.zero_le _, rfl, Lib.hid ?_, (Below.refl _ _).alloc (Nat.le_refl _) _⟩
    exact two_made w1 _ _ _
  case round =>
    obtain ⟨r, hr, rfl, hO, hB⟩ := hrel
    obtain ⟨wk, hwk⟩ : ∃ wk : World, wk = wr := ⟨_, rfl⟩
    subst hwk
    have HIT := Lib.hid (show itB sgW (leadB ends) x (r + 1) = nxtB sgW (leadB ends) (itB sgW (leadB ends) x r) from rfl)
    have HRUN := Lib.hid (fun b hb => it_good HX.out (leadB ends) r b hb)
    have hlen := itB_le (sg := sgW) (leadB ends) x r
    obtain ⟨A8, cap8, rfl, hcells⟩ := prow_open hO.out rfl
    have HCE := Lib.hid hcells
    clear hcells
    by_cases hlt : r < m
    · have hp : 2 ^ r ≤ 549755813888 := Nat.le_trans (Nat.pow_le_pow_right (by omega) (show r ≤ 39 by omega)) (by decide)
      have hlen2 : (itB sgW (leadB ends) x r).length ≤ 549755813888 := Nat.le_trans hlen hp
      clear hlen hp hO
      generalize itB sgW (leadB ends) x r = B at HCE HIT HRUN hlen2 ⊢
      have HMK := Lib.hid (HMAP.out.kept (grown_of_below hB) (by intro e; cases e))
      have hbk : bm < wk.heap.size := Nat.lt_of_lt_of_le HMAP.out.lt hB.size
      have HBK := Lib.hid hB
      clear hB
      go_wp2
      go_loopw [9, 30] (fun v t wr => ∃ (k : Nat), k ≤ B.length ∧ t = .int .i64 k ∧ Hid (Wx wr wk bm D (nxtB sgW (leadB ends) (B.take k)) v)) (fun _ t _ => B.length - (intOf t).toNat)
      case atStart => exact ⟨0, Nat.zero_le _, rfl, Lib.hid ⟨World.ownsRow_nil _ _ _ _, HMK.out, Below.refl _ _, hbk⟩⟩
      case round =>
        obtain ⟨k, hk, rfl, hW⟩ := hrel
        obtain ⟨wi, hwi⟩ : ∃ wi : World, wi = wr := ⟨_, rfl⟩
        subst hwi
        by_cases hltk : k < B.length
        · obtain ⟨g, rfl, hgb, hgl, k0, k1⟩ := HCE.out k hltk
          have c0 := (hW.out.bel.cell (p := ⟨g, k * 2, none⟩) hgl).trans k0
          have c1 := (hW.out.bel.cell (p := ⟨g, k * 2 + 1, none⟩) hgl).trans k1
          obtain ⟨r1, r2⟩ := HRUN.out B[k] (List.getElem_mem hltk)
          have HTK := Lib.hid (nxtB_take (leadB ends) B k hltk)
          have HN0 : Hid ((nxtB sgW (leadB ends) (B.take k)).length ≤ 1099511627776) := Lib.hid (by
            have h1 := nxtB_le (sg := sgW) (leadB ends) (B.take k)
            rw [List.length_take] at h1
            omega)
          generalize nxtB sgW (leadB ends) (B.take k) = N0 at hW HTK HN0
          generalize B[k] = bb at c0 c1 r1 r2 HTK
          obtain ⟨u, y⟩ := bb
          have c0 : wi.cell? ⟨g, k * 2, none⟩ = some (.string (str u)) := c0
          have c1 : wi.cell? ⟨g, k * 2 + 1, none⟩ = some (.string (str y)) := c1
          have HGY : Hid (goodL (str y) = true) := Lib.hid r1.1
          have HYL : Hid (y.length ≤ 10) := Lib.hid (by have h1 := r1.2.1; have h2 := r1.2.2; have h1 : y.length = n := h1; omega)
          have hus : (str u).size ≤ 1000 := by rw [str_size]; have r2 : u.length = r := r2; omega
          have i1 : (0 : Int) ≤ (k : Int) := by omega
          have i2 : (k : Int) < (B.length : Int) := by omega
          have HWI := Lib.hid hW
          clear k0 k1 r1 r2
          have hcs : (convert 51 51 (.slice (some ⟨wi.heap.size + 1, 0, none⟩) 2 2)).run Try.prog ((wi.alloc (Obj.cells #[.string (str u), .string (str y)] 86)).alloc (.cells #[.int .u8 70, .int .u8 84] 5)) = .ok (.slice (some ⟨wi.heap.size + 1, 0, none⟩) 2 2) ((wi.alloc (Obj.cells #[.string (str u), .string (str y)] 86)).alloc (.cells #[.int .u8 70, .int .u8 84] 5 (2, 3))) := by
            have h := Lib.run_convert_bytes_const (P := Try.prog) (wi.alloc (Obj.cells #[.string (str u), .string (str y)] 86)) 51 5 #[.int .u8 70, .int .u8 84] 2 2 Try.underlying51 Try.underlying5
            rw [World.size_alloc] at h
            exact h
          go_wp2
          go_loopw [9, 37] (fun v t wr => ∃ (j : Nat), j ≤ 2 ∧ t = .int .i64 j ∧ Hid (Wx wr wk bm D (N0 ++ stepP (leadB ends) u y (([70, 84] : List UInt8).take j)) v) ∧ Hid (Wsg wr wi.heap.size (wi.heap.size + 1) u y v)) (fun _ t _ => 2 - (intOf t).toNat)
          case atStart =>
            have hbA : Below wi.heap.size wi ((wi.alloc (Obj.cells #[.string (str u), .string (str y)] 86)).alloc (Obj.cells #[.int .u8 70, .int .u8 84] 5 (2, 3))) := ((Below.refl _ _).alloc (Nat.le_refl _) _).alloc (by simp) _
            refine ⟨0, by omega, rfl, Lib.hid ?_, Lib.hid ?_⟩
            · rw [show stepP (leadB ends) u y (([70, 84] : List UInt8).take 0) = [] from rfl, List.append_nil]
              exact hW.out.below hbA
            · have hq := fun q hq => (hW.out.row.lt q hq).2
              refine ⟨?_, ?_, ?_, ?_, ?_, ?_, fun e => ?_, fun e => ?_⟩
              · exact (((Below.refl (wi.alloc (Obj.cells #[.string (str u), .string (str y)] 86)).heap.size (wi.alloc (Obj.cells #[.string (str u), .string (str y)] 86))).alloc (Nat.le_refl _) (Obj.cells #[.int .u8 70, .int .u8 84] 5 (2, 3))).cell (p := ⟨wi.heap.size, 0, none⟩) (by rw [World.size_alloc]; exact Nat.lt_succ_self _)).trans (by rw [World.cell?_alloc_new]; rfl)
              · exact (((Below.refl (wi.alloc (Obj.cells #[.string (str u), .string (str y)] 86)).heap.size (wi.alloc (Obj.cells #[.string (str u), .string (str y)] 86))).alloc (Nat.le_refl _) (Obj.cells #[.int .u8 70, .int .u8 84] 5 (2, 3))).cell (p := ⟨wi.heap.size, 1, none⟩) (by rw [World.size_alloc]; exact Nat.lt_succ_self _)).trans (by rw [World.cell?_alloc_new]; rfl)
              · have h := World.cell?_alloc_mark (wi.alloc (Obj.cells #[.string (str u), .string (str y)] 86)) #[.int .u8 70, .int .u8 84] 5 (2, 3) 0
                rw [World.size_alloc] at h
                exact h
              · have h := World.cell?_alloc_mark (wi.alloc (Obj.cells #[.string (str u), .string (str y)] 86)) #[.int .u8 70, .int .u8 84] 5 (2, 3) 1
                rw [World.size_alloc] at h
                exact h
              · rw [World.size_alloc, World.size_alloc]; omega
              · rw [World.size_alloc, World.size_alloc]; omega
              · have := hq _ e; omega
              · have := hq _ e; omega
          case round =>
            obtain ⟨j, hj, rfl, hW, hS⟩ := hrel
            clear c0 c1
            rcases (show j = 0 ∨ j = 1 ∨ j = 2 by omega) with rfl | rfl | rfl
            · rw [show ((0 : Nat) : Int) = 0 from rfl]
              have hW : Hid (Wx wr wk bm D (N0 ++ stepP (leadB ends) u y []) u9) := hW
              have hcv : ∀ wx, (convert 5 9 (.int .u8 70)).run Try.prog wx = .ok (.string ⟨#[70]⟩) wx := fun _ => by kernel_rfl
              obtain ⟨b0, b1, q0, q1, l1, l2, n1, n2⟩ := hS.out
              go_wp2_with fail
              refine (playOfSign_any y 70 _ HGY.out).mono ?_
              rintro e w5 ⟨rfl, hb5⟩
              have HW5 := Lib.hid (hW.out.below hb5)
              have HS5 := Lib.hid (hS.out.below hb5)
              clear b0 b1 q0 q1 hb5
              cases hmv : mvW 70 y with
              | none =>
                have hsg : sgW 70 y = none := by unfold sgW; rw [hmv]; simp
                have HE := Lib.hid (stepP_none (lead := leadB ends) (u := u) [] hsg)
                clear hmv hsg
                rw [show psV none y = .tuple #[.agg #[.int .i64 0, .int .i64 0, .string (str [])], .bool false] from rfl]
                go_wp2
                go_roundw
                case rel => exact ⟨1, by omega, rfl, Lib.hid (by rw [show ([70, 84] : List UInt8).take 1 = [] ++ [70] from rfl, HE.out]; exact HW5.out.below ((Below.refl _ _).alloc (Nat.le_refl _) _)), Lib.hid (HS5.out.below ((Below.refl _ _).alloc (Nat.le_refl _) _))⟩
                case measure => simp [intOf]
              | some mv =>
                obtain ⟨hcan, hsgn⟩ := mvW_can hmv
                obtain ⟨p, q⟩ := mv
                obtain ⟨a, b, ea, eb, ha, hb, hne⟩ := canM_in hcan
                have ea : p = a := ea
                have eb : q = b := eb
                subst ea; subst eb
                have hz : sgW 70 y = some (putL (str y) a b) := by unfold sgW; rw [hmv]; rfl
                have hzl : (putL (str y) a b).length ≤ maxLen := by rw [putL_len, str_size]; have := HYL.out; unfold maxLen; omega
                clear hmv hcan hsgn
                rw [show psV (some ((a : Int), (b : Int))) y = .tuple #[.agg #[.int .i64 a, .int .i64 b, .string (str y)], .bool true] from rfl]
                go_wp2_with fail
                refine (lineBehind_any (str y) a b _ ha hb hne).mono ?_
                rintro e w6 ⟨rfl, hb6⟩
                have HW6 := Lib.hid ((HW5.out.below ((Below.refl w5.heap.size w5).alloc (Nat.le_refl _) (Obj.cells #[.int .i64 a, .int .i64 b, .string (str y)] 89))).below hb6)
                have HS6 := Lib.hid ((HS5.out.below ((Below.refl w5.heap.size w5).alloc (Nat.le_refl _) (Obj.cells #[.int .i64 a, .int .i64 b, .string (str y)] 89))).below hb6)
                clear hb6
                generalize putL (str y) a b = z at hz hzl
                have hlk := boV_look Try.underlying83 HW6.out.map HV.out hzl
                rw [HM.out] at hlk
                cases hld : leadB ends z
                · rw [hld] at hlk
                  have HE := Lib.hid (stepP_no (lead := leadB ends) (u := u) [] hz hld)
                  clear hld hz
                  go_wp2
                  go_roundw
                  case rel => exact ⟨1, by omega, rfl, Lib.hid (by rw [show ([70, 84] : List UInt8).take 1 = [] ++ [70] from rfl, HE.out]; exact HW6.out), HS6⟩
                  case measure => simp [intOf]
                · rw [hld] at hlk
                  have HE := Lib.hid (stepP_yes (lead := leadB ends) (u := u) [] hz hld)
                  have hcat : Hid (str u ++ ⟨#[70]⟩ = str (u ++ [70])) := Lib.hid (by rw [← str_app]; rfl)
                  clear hld hz
                  obtain ⟨b0, b1, q0, q1, l1, l2, n1, n2⟩ := HS6.out
                  have hsz6 := HW6.out.bel.size
                  have H3 : (N0 ++ stepP (leadB ends) u y []).length + 1 ≤ maxLen := by have : (stepP (leadB ends) u y []).length ≤ 2 := Nat.le_trans (stepP_le (leadB ends) u y []) (by decide); have h2 := HN0.out; rw [List.length_append]; unfold maxLen; omega
                  have H4 : ((N0 ++ stepP (leadB ends) u y []).length + 1) * 32 ≤ 140737488355328 := by have : (stepP (leadB ends) u y []).length ≤ 2 := Nat.le_trans (stepP_le (leadB ends) u y []) (by decide); have h2 := HN0.out; rw [List.length_append]; omega
                  go_wp2_with (first | (at_builtin; refine wpList_append_lies _ rfl _ _ 87 rfl wk.heap.size 86 i0 (.agg #[.string ByteArray.empty, .string ByteArray.empty]) 2 32 Try.underlying87 HI.out HZ0.out HZ1.out HZ2.out rfl (by decide) _ _ _ rfl (HW6.out.row.alloc _) ⟨w6.heap.size, 0, none⟩ 1 1 [.string (str u ++ ⟨#[70]⟩), .string (str z)] rfl rfl (cell_two_new _ _ _ _) (fun u hu => by simp at hu; rcases hu with rfl | rfl <;> rfl) (by decide) H3 H4 (by simp; omega) _ rfl ?_; intro g7 cap7 w7 ho7 hg7 hw7 hl7; have HO7 := Lib.hid ho7; have HG7 := Lib.hid hg7; have HL7 := Lib.hid hw7; clear ho7 hg7 hw7))
                  go_roundw
                  case rel =>
                    have hbA : Below w6.heap.size w6 (w6.alloc (Obj.cells #[.string (str u ++ ⟨#[70]⟩), .string (str z)] 86)) := (Below.refl _ _).alloc (Nat.le_refl _) _
                    have hXA := HW6.out.below hbA
                    have hSA := HS6.out.below hbA
                    refine ⟨1, by omega, rfl, Lib.hid ?_, Lib.hid (hSA.app HG7.out HL7.out)⟩
                    rw [show ([70, 84] : List UInt8).take 1 = [] ++ [70] from rfl, HE.out, ← List.append_assoc]
                    refine ⟨?_, hXA.map.kept HG7.out (fun e => own_neq_map hXA.row hXA.map e.symm), hXA.bel.grown HG7.out hXA.bel.size (fun q hq => (hXA.row.lt q hq).1), hXA.bm⟩
                    have h := HO7.out
                    rw [pcells_app, show pcells [(u ++ [70], z)] = [.string (str u ++ ⟨#[70]⟩), .string (str z)] by rw [hcat.out]; rfl]
                    simp only [List.length_append, List.length_singleton] at h ⊢
                    exact h
                  case measure => simp [intOf]
            · rw [show ((1 : Nat) : Int) = 1 from rfl]
              have hW : Hid (Wx wr wk bm D (N0 ++ stepP (leadB ends) u y [70]) u9) := hW
              have hcv : ∀ wx, (convert 5 9 (.int .u8 84)).run Try.prog wx = .ok (.string ⟨#[84]⟩) wx := fun _ => by kernel_rfl
              obtain ⟨b0, b1, q0, q1, l1, l2, n1, n2⟩ := hS.out
              go_wp2_with fail
              refine (playOfSign_any y 84 _ HGY.out).mono ?_
              rintro e w5 ⟨rfl, hb5⟩
              have HW5 := Lib.hid (hW.out.below hb5)
              have HS5 := Lib.hid (hS.out.below hb5)
              clear b0 b1 q0 q1 hb5
              cases hmv : mvW 84 y with
              | none =>
                have hsg : sgW 84 y = none := by unfold sgW; rw [hmv]; simp
                have HE := Lib.hid (stepP_none (lead := leadB ends) (u := u) [70] hsg)
                clear hmv hsg
                rw [show psV none y = .tuple #[.agg #[.int .i64 0, .int .i64 0, .string (str [])], .bool false] from rfl]
                go_wp2
                go_roundw
                case rel => exact ⟨2, by omega, rfl, Lib.hid (by rw [show ([70, 84] : List UInt8).take 2 = [70] ++ [84] from rfl, HE.out]; exact HW5.out.below ((Below.refl _ _).alloc (Nat.le_refl _) _)), Lib.hid (HS5.out.below ((Below.refl _ _).alloc (Nat.le_refl _) _))⟩
                case measure => simp [intOf]
              | some mv =>
                obtain ⟨hcan, hsgn⟩ := mvW_can hmv
                obtain ⟨p, q⟩ := mv
                obtain ⟨a, b, ea, eb, ha, hb, hne⟩ := canM_in hcan
                have ea : p = a := ea
                have eb : q = b := eb
                subst ea; subst eb
                have hz : sgW 84 y = some (putL (str y) a b) := by unfold sgW; rw [hmv]; rfl
                have hzl : (putL (str y) a b).length ≤ maxLen := by rw [putL_len, str_size]; have := HYL.out; unfold maxLen; omega
                clear hmv hcan hsgn
                rw [show psV (some ((a : Int), (b : Int))) y = .tuple #[.agg #[.int .i64 a, .int .i64 b, .string (str y)], .bool true] from rfl]
                go_wp2_with fail
                refine (lineBehind_any (str y) a b _ ha hb hne).mono ?_
                rintro e w6 ⟨rfl, hb6⟩
                have HW6 := Lib.hid ((HW5.out.below ((Below.refl w5.heap.size w5).alloc (Nat.le_refl _) (Obj.cells #[.int .i64 a, .int .i64 b, .string (str y)] 89))).below hb6)
                have HS6 := Lib.hid ((HS5.out.below ((Below.refl w5.heap.size w5).alloc (Nat.le_refl _) (Obj.cells #[.int .i64 a, .int .i64 b, .string (str y)] 89))).below hb6)
                clear hb6
                generalize putL (str y) a b = z at hz hzl
                have hlk := boV_look Try.underlying83 HW6.out.map HV.out hzl
                rw [HM.out] at hlk
                cases hld : leadB ends z
                · rw [hld] at hlk
                  have HE := Lib.hid (stepP_no (lead := leadB ends) (u := u) [70] hz hld)
                  clear hld hz
                  go_wp2
                  go_roundw
                  case rel => exact ⟨2, by omega, rfl, Lib.hid (by rw [show ([70, 84] : List UInt8).take 2 = [70] ++ [84] from rfl, HE.out]; exact HW6.out), HS6⟩
                  case measure => simp [intOf]
                · rw [hld] at hlk
                  have HE := Lib.hid (stepP_yes (lead := leadB ends) (u := u) [70] hz hld)
                  have hcat : Hid (str u ++ ⟨#[84]⟩ = str (u ++ [84])) := Lib.hid (by rw [← str_app]; rfl)
                  clear hld hz
                  obtain ⟨b0, b1, q0, q1, l1, l2, n1, n2⟩ := HS6.out
                  have hsz6 := HW6.out.bel.size
                  have H3 : (N0 ++ stepP (leadB ends) u y [70]).length + 1 ≤ maxLen := by have : (stepP (leadB ends) u y [70]).length ≤ 2 := Nat.le_trans (stepP_le (leadB ends) u y [70]) (by decide); have h2 := HN0.out; rw [List.length_append]; unfold maxLen; omega
                  have H4 : ((N0 ++ stepP (leadB ends) u y [70]).length + 1) * 32 ≤ 140737488355328 := by have : (stepP (leadB ends) u y [70]).length ≤ 2 := Nat.le_trans (stepP_le (leadB ends) u y [70]) (by decide); have h2 := HN0.out; rw [List.length_append]; omega
                  go_wp2_with (first | (at_builtin; refine wpList_append_lies _ rfl _ _ 87 rfl wk.heap.size 86 i0 (.agg #[.string ByteArray.empty, .string ByteArray.empty]) 2 32 Try.underlying87 HI.out HZ0.out HZ1.out HZ2.out rfl (by decide) _ _ _ rfl (HW6.out.row.alloc _) ⟨w6.heap.size, 0, none⟩ 1 1 [.string (str u ++ ⟨#[84]⟩), .string (str z)] rfl rfl (cell_two_new _ _ _ _) (fun u hu => by simp at hu; rcases hu with rfl | rfl <;> rfl) (by decide) H3 H4 (by simp; omega) _ rfl ?_; intro g7 cap7 w7 ho7 hg7 hw7 hl7; have HO7 := Lib.hid ho7; have HG7 := Lib.hid hg7; have HL7 := Lib.hid hw7; clear ho7 hg7 hw7))
                  go_roundw
                  case rel =>
                    have hbA : Below w6.heap.size w6 (w6.alloc (Obj.cells #[.string (str u ++ ⟨#[84]⟩), .string (str z)] 86)) := (Below.refl _ _).alloc (Nat.le_refl _) _
                    have hXA := HW6.out.below hbA
                    have hSA := HS6.out.below hbA
                    refine ⟨2, by omega, rfl, Lib.hid ?_, Lib.hid (hSA.app HG7.out HL7.out)⟩
                    rw [show ([70, 84] : List UInt8).take 2 = [70] ++ [84] from rfl, HE.out, ← List.append_assoc]
                    refine ⟨?_, hXA.map.kept HG7.out (fun e => own_neq_map hXA.row hXA.map e.symm), hXA.bel.grown HG7.out hXA.bel.size (fun q hq => (hXA.row.lt q hq).1), hXA.bm⟩
                    have h := HO7.out
                    rw [pcells_app, show pcells [(u ++ [84], z)] = [.string (str u ++ ⟨#[84]⟩), .string (str z)] by rw [hcat.out]; rfl]
                    simp only [List.length_append, List.length_singleton] at h ⊢
                    exact h
                  case measure => simp [intOf]
            · rw [show ((2 : Nat) : Int) = 2 from rfl]
              go_wp2
              go_roundw
              case rel =>
                refine ⟨k + 1, by omega, by go_num, Lib.hid ?_⟩
                rw [HTK.out]
                exact hW.out
              case measure => simp [intOf]; omega
        · obtain rfl : k = B.length := by omega
          rw [List.take_length] at hW
          go_wp2
          go_roundw
          case rel =>
            refine ⟨r + 1, by omega, by go_num, Lib.hid ?_, HBK.out.trans (hW.out.bel.mono HBK.out.size)⟩
            rw [HIT.out]
            exact own_base hW.out.row HBK.out.size
          case measure => simp [intOf]; omega
    · obtain rfl : r = m := by omega
      have hp : 2 ^ r ≤ 1099511627776 := Nat.le_trans (Nat.pow_le_pow_right (by omega) hm) (by decide)
      have hlen2 : (itB sgW (leadB ends) x r).length ≤ 1099511627776 := Nat.le_trans hlen hp
      clear hlen hp hO HIT HRUN
      obtain ⟨B, hB0⟩ : ∃ B, itB sgW (leadB ends) x r = B := ⟨_, rfl⟩
      rw [hB0] at HCE hlen2 ⊢
      have HB0 := Lib.hid hB0
      have HBK := Lib.hid hB
      clear hB hB0
      go_wp2
      go_loopw [17, 71] (fun v t wr => ∃ (k : Nat), k ≤ B.length ∧ t = .int .i64 k ∧ Hid (wr.ownsRow wk.heap.size 9 1 v ((B.take k).map (·.1)).length (txs ((B.take k).map (·.1)))) ∧ Below wk.heap.size wk wr) (fun _ t _ => B.length - (intOf t).toNat)
      case atStart => exact ⟨0, Nat.zero_le _, rfl, Lib.hid (World.ownsRow_nil _ _ _ _), Below.refl _ _⟩
      case round =>
        obtain ⟨k, hk, rfl, hO, hB⟩ := hrel
        by_cases hltk : k < B.length
        · obtain ⟨g, rfl, hgb, hgl, k0, k1⟩ := HCE.out k hltk
          have c0 := (hB.cell (p := ⟨g, k * 2, none⟩) hgl).trans k0
          have c1 := (hB.cell (p := ⟨g, k * 2 + 1, none⟩) hgl).trans k1
          have hkl : ((B.take k).map (·.1)).length = k := by rw [List.length_map, List.length_take]; omega
          have HTK : Hid ((B.take (k + 1)).map (·.1) = (B.take k).map (·.1) ++ [B[k].1]) := Lib.hid (by rw [List.take_succ_eq_append_getElem hltk, List.map_append]; rfl)
          rw [hkl] at hO
          generalize (B.take k).map (·.1) = L at hO HTK hkl
          generalize B[k] = bb at c0 c1 HTK
          obtain ⟨u, y⟩ := bb
          have c0 : wr.cell? ⟨g, k * 2, none⟩ = some (.string (str u)) := c0
          have c1 : wr.cell? ⟨g, k * 2 + 1, none⟩ = some (.string (str y)) := c1
          have i1 : (0 : Int) ≤ (k : Int) := by omega
          have i2 : (k : Int) < (B.length : Int) := by omega
          have hsz := hB.size
          have H3 : k + 1 ≤ maxLen := by unfold maxLen; omega
          have H4 : (k + 1) * 16 ≤ 140737488355328 := by omega
          have HBr := Lib.hid hB
          clear k0 k1 hB
          go_wp2_with (first | (at_builtin; refine wpList_append_lies _ rfl _ _ 30 rfl wk.heap.size 9 j0 (.string ByteArray.empty) 1 16 Try.underlying30 JI.out JZ0.out JZ1.out JZ2.out rfl (by decide) _ _ _ rfl ((hO.out.alloc (Obj.cells #[.string (str u), .string (str y)] 86)).alloc _) ⟨wr.heap.size + 1, 0, none⟩ 1 1 [.string (str u)] rfl rfl ?_ (fun u hu => by simp at hu; subst hu; rfl) (by decide) H3 H4 (by simp; omega) _ rfl ?_; rotate_right; intro g7 cap7 w7 ho7 hg7 hw7 hl7; have HO7 := Lib.hid ho7; have HG7 := Lib.hid hg7; clear ho7 hg7))
          · go_roundw
            case rel =>
              refine ⟨k + 1, by omega, by go_num, Lib.hid ?_, ?_⟩
              · rw [HTK.out, txs_app, List.length_append, hkl]
                exact HO7.out
              · exact ((HBr.out.alloc HBr.out.size (Obj.cells #[.string (str u), .string (str y)] 86)).alloc (by have := HBr.out.size; simp; omega) (Obj.cells #[.string (str u)] 9)).grown HG7.out (by have := HBr.out.size; simp; omega) (fun q hq => (hO.out.lt q hq).1)
            case measure => simp [intOf]; omega
        · obtain rfl : k = B.length := by omega
          rw [List.take_length] at hO
          obtain ⟨A4, cap4, rfl, _⟩ := st_own hO.out
          have HBr := Lib.hid (HB1.out.trans ((HBK.out.trans (hB.mono HBK.out.size)).mono HB1.out.size))
          have hbs := HB1.out.size
          have hbs2 := HBK.out.size
          go_wp2
          go_ret
          exact ⟨_, rfl, by have h := own_base (b' := w.heap.size) hO.out (by omega); rw [HB0.out]; simpa using h, HBr.out⟩
end Go.Proofs.Ytoefeooldcbfiaa
