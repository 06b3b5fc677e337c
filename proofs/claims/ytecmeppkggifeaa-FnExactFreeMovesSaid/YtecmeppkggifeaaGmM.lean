/- Contract: the program's count of moves one player can make alone. -/
import Derived.Test.YtecmeppkggifeaaGmL
import Derived.ScopeJumps
import Derived.WalkMore
namespace Go.Proofs.Ytecmeppkggifeaa
open Go.RowKit
def tlF : Code → Code
  | .seq _ c => c
  | c => c
def scF : Code → Code
  | .scope c => c
  | c => c
/-- The code behind the label. -/
noncomputable def fmRest : Code := tlF (tlF (scF (tlF (Try.f78.body.getD .skip))))
/-- Where the run stands at the label: k moves are made. -/
structure FRel (tm : Bool) (s : List UInt8) (W : World) (k : Nat) (x : List UInt8) (w : World) : Prop where
  len : x.length = s.length
  fr : Fr tm s = k + Fr tm x
  box : w.heap[W.heap.size]? = some (.cells #[.string (str x), .int .u8 (kd tm).toNat] 67 (0, 0))
  below : Below W.heap.size W w
theorem jump_ret {l : Nat} {J : Act → World → Prop} {Q : Exit → Act → World → Prop} {a : Act} {w : World} (h : Q .ret a w) : Exit.jump l J Q .ret a w := h
theorem jump_goto {l : Nat} {J : Act → World → Prop} {Q : Exit → Act → World → Prop} {a : Act} {w : World} (h : J a w) : Exit.jump l J Q (.goto l) a w := ⟨rfl, h⟩
set_option maxRecDepth 100000 in
set_option maxHeartbeats 4000000 in
theorem fm_pass (tm : Bool) (s x : List UInt8) (W wz : World) (k : Nat) (hs : s.length ≤ 100) (hrel : FRel tm s W k x wz)
    {J : Act → World → Prop} {u0 u2 u4 u5 u6 u7 u8 u9 u10 u11 u12 u13 u14 u15 u16 u17 u18 u19 : Value}
    (hJ : ∀ (y : List UInt8) (u0 u2 u4 u5 u6 u7 u8 u9 u10 u11 u12 u13 u14 u15 u16 u17 u18 u19 : Value) (w' : World), FRel tm s W (k + 1) y w' → J { tmps := #[u0, .pointer (some ⟨W.heap.size, 0, none⟩), u2, .int .i64 ((k : Int) + 1), u4, u5, u6, u7, u8, u9, u10, u11, u12, u13, u14, u15, u16, u17, u18, u19], defers := [] } w') :
    Code.wp Try.prog fmRest (Exit.jump 0 J (bodyPost Try.prog Try.f78 (fun e W' => e = .returned (.int .i64 (Fr tm s : Int)) ∧ Below W.heap.size W W'))) { tmps := #[u0, .pointer (some ⟨W.heap.size, 0, none⟩), u2, .int .i64 (k : Int), u4, u5, u6, u7, u8, u9, u10, u11, u12, u13, u14, u15, u16, u17, u18, u19], defers := [] } wz := by
  obtain ⟨hxl, hfr, hbox, hB⟩ := hrel
  have hx100 : x.length ≤ 100 := by omega
  have hlt : W.heap.size < wz.heap.size := (Array.getElem?_eq_some_iff.1 hbox).1
  have c0 : wz.cell? ⟨W.heap.size, 0, none⟩ = some (.string (str x)) := by simp [World.cell?, hbox]
  have c1 : wz.cell? ⟨W.heap.size, 1, none⟩ = some (.int .u8 (kd tm).toNat) := by simp [World.cell?, hbox]
  have hmv : ∀ wx, Calls Try.prog 90 #[.agg #[.string (str x), .int .u8 (kd tm).toNat]] wx (SpPost wx (gmM tm x)) := fun wx => tnMoves_any tm x wx hx100
  have HMV := Lib.hid hmv
  have HAT := Lib.hid (fun (j : Nat) (h : j < (gmM tm x).length) => gm_at (tm := tm) (s := x) j h)
  have HST : Hid (∀ y ∈ nxG tm x, Fr tm x = Fr tm y + 1 ∧ y.length = x.length) := Lib.hid fun y hy => ⟨Fr_step tm _ x hx100 (Nat.lt_succ_self _) y hy, (mu_less hx100 hy).2⟩
  have HNO : Hid ((gmM tm x).length = 0 → Fr tm x = 0) := Lib.hid fun h => Fr_none hx100 (by unfold nxG; rw [List.length_eq_zero_iff.1 h]; rfl)
  have hMl := gmM_le tm x
  have hks := Fr_small tm hs
  have hk20 : k ≤ 20000 := by omega
  clear hks
  have hbh : ∀ (a b : Nat) wx, a < x.length → b < x.length → a ≠ b → Calls Try.prog 68 #[.agg #[.string (str x), .int .u8 (kd tm).toNat], .agg #[.int .i64 a, .int .i64 b]] wx fun e w' => e = .returned (.agg #[.string (str (putL (str x) a b)), .int .u8 (kd (!tm)).toNat]) ∧ Below wx.heap.size wx w' := fun a b wx h1 h2 h3 => tnBehind_any tm x a b wx h1 h2 h3
  have HBH := Lib.hid hbh
  have HBOX := Lib.hid hbox
  have HB := Lib.hid hB
  have HJ := Lib.hid hJ
  have HFR := Lib.hid hfr
  have HXL := Lib.hid hxl
  clear hmv hbh hJ hbox hB hfr hxl
  generalize hMM : gmM tm x = M at HMV HAT HNO hMl
  clear hMM
  conv => arg 2; whnf
  go_wp2_with fail
  refine (HMV.out _).mono ?_
  rintro e w2 ⟨vm, rfl, ho2, hb2⟩
  obtain ⟨A2, cap2, rfl, AT2⟩ := at_of_own ho2
  have AT := Lib.hid AT2
  have d0 := (hb2.cell (p := ⟨W.heap.size, 0, none⟩) hlt).trans c0
  have d1 := (hb2.cell (p := ⟨W.heap.size, 1, none⟩) hlt).trans c1
  have HBOX2 := Lib.hid ((hb2.block _ hlt).trans HBOX.out)
  have hlt2 : W.heap.size < w2.heap.size := Nat.lt_of_lt_of_le hlt hb2.size
  have HB2 := Lib.hid (HB.out.trans (hb2.mono HB.out.size))
  clear ho2 hb2 AT2
  by_cases hM : M.length = 0
  · have hF := HNO.out hM
    have hF2 := HFR.out
    go_wp2
    refine jump_ret ?_
    go_ret
    exact ⟨by rw [show Fr tm s = k by omega]; rfl, HB2.out⟩
  · obtain ⟨a, b, e1, e2, hai, hbi, hneab, hyn, _⟩ := HAT.out 0 (by omega)
    obtain ⟨gm, hgm, zz, p1, q1⟩ := AT.out 0 (by omega)
    subst hgm
    rw [e1] at p1
    rw [e2] at q1
    have i1 : (0 : Int) < (M.length : Int) := by omega
    have i2 : 0 < M.length := by omega
    have i3 : ¬ M.length ≤ 0 := by omega
    have i4 : decide (0 < M.length) = true := by rw [decide_eq_true_iff]; exact i2
    have i5 : decide ((0 : Int) < (M.length : Int)) = true := by rw [decide_eq_true_iff]; exact i1
    have f0 : w2.frozen? ⟨W.heap.size, 0, none⟩ = false := by simp [World.frozen?, HBOX2.out]
    have HC := Lib.hid (fun wx => HBH.out a b wx hai hbi hneab)
    have HY := Lib.hid (HST.out _ hyn)
    generalize putL (str x) a b = y at HC HY
    generalize (kd (!tm)).toNat = kc' at HC
    clear e1 e2 hyn
    have hfd : ∀ w : World, (Instr.field 67 (.agg #[.string (str y), .int .u8 kc']) 0).run Try.prog w = .ok (.string (str y)) w := fun _ => by kernel_rfl
    simp only [Nat.zero_mul, Nat.zero_add] at p1 q1
    go_wp2
    go_region_with (go_at_call 68; refine (HC.out _).mono ?_; rintro e w3 ⟨rfl, hb3⟩; have g0 := (hb3.cell (p := ⟨W.heap.size, 0, none⟩) hlt2).trans d0; have g1 := (hb3.frozen (p := ⟨W.heap.size, 0, none⟩) hlt2).trans f0)
    all_goals
      have hR : FRel tm s W (k + 1) y (w3.setCell ⟨W.heap.size, 0, none⟩ (.string (str y))) := by
        have h1 := HFR.out
        have h2 := HY.out
        have h3 := HXL.out
        refine ⟨by omega, by omega, ?_, ((below_drewN HB2.out 1).trans (hb3.mono (by have := HB2.out.size; simp; omega))).setCell (Nat.le_refl _) _⟩
        simpa using heap_setCell_same w3 W.heap.size 0 #[.string (str x), .int .u8 (kd tm).toNat] _ (.string (str y)) ((hb3.block _ hlt2).trans HBOX2.out)
      have HR := Lib.hid hR
      clear hR
      go_wp2
      refine wp_goto ?_
      exact ⟨rfl, HJ.out y _ _ _ _ _ _ _ _ _ _ _ _ _ _ _ _ _ _ _ HR.out⟩
set_option maxRecDepth 100000 in
set_option maxHeartbeats 4000000 in
theorem freeMoves_any (tm : Bool) (s : List UInt8) (W : World) (hs : s.length ≤ 100) :
    Calls Try.prog 78 #[tnV tm s] W fun e W' => e = .returned (.int .i64 (Fr tm s : Int)) ∧ Below W.heap.size W W' := by
  show Calls Try.prog 78 #[.agg #[.string (str s), .int .u8 (kd tm).toNat]] W fun e W' => e = .returned (.int .i64 (Fr tm s : Int)) ∧ Below W.heap.size W W'
  have HR0 : Hid (FRel tm s W 0 s (W.alloc (.cells #[.string (str s), .int .u8 (kd tm).toNat] 67))) := Lib.hid ⟨rfl, by omega, heap_alloc_new _ _, (Below.refl _ _).alloc (Nat.le_refl _) _⟩
  go_enter Try.func78, Try.ntmps78
  go_wp2
  refine wp_scope_jumps 0 (fun a w' => ∃ (k : Nat) (x : List UInt8) (u0 u2 u4 u5 u6 u7 u8 u9 u10 u11 u12 u13 u14 u15 u16 u17 u18 u19 : Value), FRel tm s W k x w' ∧ a = { tmps := #[u0, .pointer (some ⟨W.heap.size, 0, none⟩), u2, .int .i64 (k : Int), u4, u5, u6, u7, u8, u9, u10, u11, u12, u13, u14, u15, u16, u17, u18, u19], defers := [] }) (fun a _ => Fr tm s + 1 - (intOf (a.tmps.getD 3 undef)).toNat) rfl ?_ ?_
  · go_wp2
    refine wp_label ?_
    rename_i KK hKK
    show KK _ _
    refine hKK _ _ ?_
    refine fm_pass tm s s W _ 0 hs HR0.out ?_
    intros
    exact ⟨1, _, _, _, _, _, _, _, _, _, _, _, _, _, _, _, _, _, _, _, by assumption, rfl⟩
  · rintro a wr ⟨k, x, u0, u2, u4, u5, u6, u7, u8, u9, u10, u11, u12, u13, u14, u15, u16, u17, u18, u19, hrel, rfl⟩
    refine wp_seq (wp_skip ?_)
    show Code.wp Try.prog fmRest _ _ _
    refine fm_pass tm s x W wr k hs hrel ?_
    intro y
    intros
    rename_i h
    refine ⟨⟨k + 1, y, _, _, _, _, _, _, _, _, _, _, _, _, _, _, _, _, _, _, h, rfl⟩, ?_⟩
    have h2 := h.fr
    show Fr tm s + 1 - ((k : Int) + 1).toNat < Fr tm s + 1 - ((k : Int)).toNat
    omega
end Go.Proofs.Ytecmeppkggifeaa
