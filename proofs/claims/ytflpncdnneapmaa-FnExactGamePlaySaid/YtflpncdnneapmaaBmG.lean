/- Contracts: the move of a game: the model's. -/
import Derived.Test.YtflpncdnneapmaaBmF
namespace Go.Proofs.Ytflpncdnneapmaa
open Go.RowKit Go.Maps Go.Shelf

theorem results_gm (tmps : Array Value) (w : World) (g : Nat) (x y : Value) (hp : tmps.getD 6 undef = .pointer (some ⟨g, 0, none⟩)) (c0 : w.cell? ⟨g, 0, none⟩ = some x) (c1 : w.cell? ⟨g, 1, none⟩ = some y) :
    (results Try.f40 tmps).run Try.prog w = .ok (.tuple #[.agg #[x, y], tmps.getD 7 undef]) w := by
  have hr : Try.f40.results = #[.cell 6 31, .tmp 7] := rfl
  unfold results
  rw [hr]
  simp at hp
  simp [hp, asAddr, c0, c1, go_sem]
theorem results_sG (tmps : Array Value) (w : World) (g : Nat) (x y : Value) (hp : tmps.getD 4 undef = .pointer (some ⟨g, 0, none⟩)) (c0 : w.cell? ⟨g, 0, none⟩ = some x) (c1 : w.cell? ⟨g, 1, none⟩ = some y) :
    (results Try.f16 tmps).run Try.prog w = .ok (.tuple #[.agg #[x, y], tmps.getD 5 undef]) w := by
  have hr : Try.f16.results = #[.cell 4 31, .tmp 5] := rfl
  unfold results
  rw [hr]
  simp at hp
  simp [hp, asAddr, c0, c1, go_sem]
theorem knW_set {W : World} {B L g o : Nat} {v : Value} (h : ∃ ks, KnW W B L ks) (hne : ¬ Ex B W g) : ∃ ks, KnW (W.setCell ⟨g, o, none⟩ v) B L ks := by
  obtain ⟨ks, bs, vs, vw, h⟩ := h
  have hg := grownBy_cellD W g o v
  refine ⟨ks, bs, vs, vw, (hg.block B h.lt (fun e => hne (by injection e with e; exact .inl e.symm))).trans h.box, h.row1.kept hg (.inr (fun e => hne ((box_ex h.box g).2 (.inr (.inl e))))), h.row2.kept hg (.inr (fun e => hne ((box_ex h.box g).2 (.inr (.inr e))))), h.len, h.val, h.nodup, h.sig⟩
theorem ex_set {W : World} {B R o k : Nat} {v : Value} (hR : R ≠ B) (h : Ex B (W.setCell ⟨R, o, none⟩ v) k) : Ex B W k := by
  rcases h with h | ⟨j, u, hc, hv⟩
  · exact .inl h
  · rw [World.cell?_setCell_other _ _ _ _ (by intro e; injection e with e _; exact hR e)] at hc
    exact .inr ⟨j, u, hc, hv⟩
theorem kpX_set {W0 W : World} {B R : Nat} (h : KpX B W0 W) (hR : W0.heap.size ≤ R) (hRB : R ≠ B) (o : Nat) (v : Value) : KpX B W0 (W.setCell ⟨R, o, none⟩ v) :=
  ⟨h.os, h.tape, h.output, by simpa using h.size, fun k hk hn => (Below.heap_setCell _ _ _ k (by show k ≠ R; omega)).trans (h.keep k hk hn), fun k hk he => h.ex k hk (ex_set hRB he)⟩
set_option maxRecDepth 100000 in
set_option maxHeartbeats 4000000 in
theorem gaMove_any (B : Nat) (s : List UInt8) (tm : Bool) (W0 : World) (hf : fewB (str s) = true) (hK : ∃ ks, KnW W0 B s.length ks) :
    Calls Try.prog 40 #[.pointer (some ⟨B, 0, none⟩), .string (str s), .bool tm] W0 fun e w' => e = .returned (gmvR (gmvO tm s)) ∧ (∃ ks, KnW w' B s.length ks) ∧ KpX B W0 w' := by
  have hgd : goodL (str s) = true := by unfold fewB at hf; rw [Bool.and_eq_true] at hf; exact hf.1
  have HM := Lib.hid (fun wx => liMoves_kd tm s wx hgd)
  have HBE := Lib.hid (fun wx h => gaBest_any B s tm wx hf h)
  have HE : Hid (gmvO tm s = match bestM tm s with | m :: _ => some m | [] => (gmM tm s).head?) := Lib.hid rfl
  have HK0 := Lib.hid hK
  have hB0 : B < W0.heap.size := by obtain ⟨ks, hk⟩ := hK; exact hk.lt
  clear hK hf
  generalize gmvO tm s = O at *
  generalize bestM tm s = M at *
  generalize gmM tm s = G at *
  go_enter Try.func40, Try.ntmps40
  go_wp2_with fail
  obtain ⟨W1, hW1⟩ : ∃ W1, W1 = W0.alloc (.cells #[.int .i64 0, .int .i64 0] 31) := ⟨_, rfl⟩
  rw [← hW1]
  have hz1 : W1.heap.size = W0.heap.size + 1 := by rw [hW1]; simp
  have hB1 : Below W0.heap.size W0 W1 := by rw [hW1]; exact (Below.refl _ _).alloc (Nat.le_refl _) _
  have c2 : W1.cell? ⟨W0.heap.size, 0, none⟩ = some (.int .i64 0) := by rw [hW1, World.cell?_alloc_new]; rfl
  have c3 : W1.cell? ⟨W0.heap.size, 1, none⟩ = some (.int .i64 0) := by rw [hW1, World.cell?_alloc_new]; rfl
  have f2 : W1.frozen? ⟨W0.heap.size, 0, none⟩ = false := by rw [hW1]; exact World.frozen?_alloc_new _ _ _ _
  have f3 : W1.frozen? ⟨W0.heap.size, 1, none⟩ = false := by rw [hW1]; exact World.frozen?_alloc_new _ _ _ _
  have hk1 : ∃ ks, KnW W1 B s.length ks := by obtain ⟨ks, hk⟩ := HK0.out; exact ⟨ks, hk.below hB1⟩
  have hnx : ¬ Ex B W1 W0.heap.size := fun he => by
    obtain ⟨ks, bs, vs, vw, hk⟩ := HK0.out
    have := hk.ex_old hB1 he
    omega
  clear hW1
  refine (HBE.out _ hk1).mono ?_
  rintro e w3 ⟨v3, rfl, hO3, hk3⟩
  have hlt1 : W0.heap.size < W1.heap.size := by omega
  have d2 := (World.cell?_of_block (a := ⟨W0.heap.size, 0, none⟩) (hk3.keep _ hlt1 hnx)).trans c2
  have d3 := (World.cell?_of_block (a := ⟨W0.heap.size, 1, none⟩) (hk3.keep _ hlt1 hnx)).trans c3
  have g2 := (World.frozen?_of_block (a := ⟨W0.heap.size, 0, none⟩) (hk3.keep _ hlt1 hnx)).trans f2
  have g3 := (World.frozen?_of_block (a := ⟨W0.heap.size, 1, none⟩) (hk3.keep _ hlt1 hnx)).trans f3
  have hnx3 : ¬ Ex B w3 W0.heap.size := fun he => hnx (hk3.ex _ hlt1 he)
  have HK3 := Lib.hid ((KpX.below hB0 hB1).trans hk3)
  have HN3 := Lib.hid hO3.kn
  have hz3 := hk3.size
  obtain ⟨A3, c, rfl, at3⟩ := at_of_own hO3.row
  have AT3 := Lib.hid at3
  clear c2 c3 f2 f3 hk3 HBE hB1 hO3 at3 hk1 hnx
  cases M with
  | cons m r =>
    obtain ⟨ga, rfl, zz, p1, q1⟩ := AT3.out 0 (by simp)
    have p1 : w3.cell? ⟨ga, 0, none⟩ = some (.int .i64 m.1) := p1
    have q1 : w3.cell? ⟨ga, 1, none⟩ = some (.int .i64 m.2) := q1
    have HO : Hid (O = some m) := HE
    clear HE
    obtain ⟨mx, my⟩ := m
    go_wp2
    (try simp only [Exit.inBlock, Exit.then]); refine bodyPost_ret (results_gm _ _ W0.heap.size (.int .i64 mx) (.int .i64 my) rfl ?_ ?_) rfl ?_
    · exact (two_set d2 d3).1
    · exact (two_set d2 d3).2
    · exact ⟨by rw [HO.out]; rfl, knW_set (knW_set HN3.out hnx3) (fun he => hnx3 (ex_set (by omega) he)), kpX_set (kpX_set HK3.out (Nat.le_refl _) (by omega) _ _) (Nat.le_refl _) (by omega) _ _⟩
  | nil =>
    have HO : Hid (O = G.head?) := HE
    clear HE
    go_wp2_with fail
    refine (HM.out _).mono ?_
    rintro e w4 ⟨v4, rfl, ho4, hb4⟩
    obtain ⟨A4, c4, rfl, AT4⟩ := at_of_own ho4
    have k2 := (hb4.cell (p := ⟨W0.heap.size, 0, none⟩) (by show W0.heap.size < _; omega)).trans d2
    have k3 := (hb4.cell (p := ⟨W0.heap.size, 1, none⟩) (by show W0.heap.size < _; omega)).trans d3
    have l2 := (World.frozen?_of_block (a := ⟨W0.heap.size, 0, none⟩) (hb4.block W0.heap.size (by omega))).trans g2
    have l3 := (World.frozen?_of_block (a := ⟨W0.heap.size, 1, none⟩) (hb4.block W0.heap.size (by omega))).trans g3
    have hkb := KpX.below (B := B) (by omega) hb4
    have hnx4 : ¬ Ex B w4 W0.heap.size := fun he => hnx3 (hkb.ex _ (by omega) he)
    have HN4 : Hid (∃ ks, KnW w4 B s.length ks) := Lib.hid (by obtain ⟨ks, hk⟩ := HN3.out; exact ⟨ks, hk.below hb4⟩)
    have HK4 := Lib.hid (HK3.out.trans hkb)
    have HAT4 := Lib.hid AT4
    clear ho4 hb4 AT4 d2 d3 g2 g3 hkb
    cases G with
    | cons m r =>
      obtain ⟨ga, rfl, zz, p1, q1⟩ := HAT4.out 0 (by simp)
      have p1 : w4.cell? ⟨ga, 0, none⟩ = some (.int .i64 m.1) := p1
      have q1 : w4.cell? ⟨ga, 1, none⟩ = some (.int .i64 m.2) := q1
      have HO : Hid (O = some m) := HO
      obtain ⟨mx, my⟩ := m
      go_wp2
      (try simp only [Exit.inBlock, Exit.then]); refine bodyPost_ret (results_gm _ _ W0.heap.size (.int .i64 mx) (.int .i64 my) rfl ?_ ?_) rfl ?_
      · exact (two_set k2 k3).1
      · exact (two_set k2 k3).2
      · exact ⟨by rw [HO.out]; rfl, knW_set (knW_set HN4.out hnx4) (fun he => hnx4 (ex_set (by omega) he)), kpX_set (kpX_set HK4.out (Nat.le_refl _) (by omega) _ _) (Nat.le_refl _) (by omega) _ _⟩
    | nil =>
      have HO : Hid (O = none) := HO
      go_wp2
      (try simp only [Exit.inBlock, Exit.then]); refine bodyPost_ret (results_gm _ _ W0.heap.size (.int .i64 0) (.int .i64 0) rfl ?_ ?_) rfl ?_
      · exact (two_set k2 k3).1
      · exact (two_set k2 k3).2
      · exact ⟨by rw [HO.out]; rfl, knW_set (knW_set HN4.out hnx4) (fun he => hnx4 (ex_set (by omega) he)), kpX_set (kpX_set HK4.out (Nat.le_refl _) (by omega) _ _) (Nat.le_refl _) (by omega) _ _⟩
/-- What both sides of GameMove answer. -/
def gmv (tm : Bool) (wl : List UInt8) : Option (Int × Int) := if fewB (str wl) = true then gmvO tm wl else none
set_option maxRecDepth 100000 in
set_option maxHeartbeats 2000000 in
theorem sGameMove_any (wl : List UInt8) (tm : Bool) (w : World) (hs : (str wl).size ≤ maxLen) :
    Calls Try.prog 16 #[.string (str wl), .bool tm] w fun e w' => e = .returned (gmvR (gmv tm wl)) ∧ Below w.heap.size w w' := by
  have HF := Lib.hid (fun wx => gaFew_any (str wl) wx hs)
  cases hf : fewB (str wl)
  · have e0 : gmv tm wl = none := by unfold gmv; rw [hf]; rfl
    rw [hf] at HF
    rw [e0]
    clear hf e0 hs
    go_enter Try.func16, Try.ntmps16
    go_wp2_with fail
    refine (HF.out _).mono ?_
    rintro e w1 ⟨rfl, rfl⟩
    go_wp2
    (try simp only [Exit.inBlock, Exit.then]); refine bodyPost_ret (results_sG _ _ w.heap.size (.int .i64 0) (.int .i64 0) rfl ?_ ?_) rfl ?_
    · rw [World.cell?_alloc_new]; rfl
    · rw [World.cell?_alloc_new]; rfl
    · exact ⟨rfl, (Below.refl _ _).alloc (Nat.le_refl _) _⟩
  · have e0 : gmv tm wl = gmvO tm wl := by unfold gmv; rw [if_pos hf]
    have HB := Lib.hid (fun B wx hk => gaMove_any B wl tm wx hf hk)
    rw [hf] at HF
    rw [e0]
    generalize gmvO tm wl = O at *
    clear hf e0 hs
    go_enter Try.func16, Try.ntmps16
    go_wp2_with fail
    refine (HF.out _).mono ?_
    rintro e w1 ⟨rfl, rfl⟩
    go_wp2_with fail
    obtain ⟨W2, hW2⟩ : ∃ W2, W2 = (w.alloc (.cells #[.int .i64 0, .int .i64 0] 31)).alloc knB := ⟨_, rfl⟩
    have hk0 := KnW.new (w.alloc (.cells #[.int .i64 0, .int .i64 0] 31)) wl.length
    rw [World.size_alloc, ← hW2] at hk0
    rw [← hW2]
    have hz2 : W2.heap.size = w.heap.size + 2 := by rw [hW2]; simp
    have hB2 : Below w.heap.size w W2 := by rw [hW2]; exact ((Below.refl _ _).alloc (Nat.le_refl _) _).alloc (by simp) _
    have c2 : W2.cell? ⟨w.heap.size, 0, none⟩ = some (.int .i64 0) := by rw [hW2, cell_old _ _ _ _ (by simp), World.cell?_alloc_new]; rfl
    have c3 : W2.cell? ⟨w.heap.size, 1, none⟩ = some (.int .i64 0) := by rw [hW2, cell_old _ _ _ _ (by simp), World.cell?_alloc_new]; rfl
    have f2 : W2.frozen? ⟨w.heap.size, 0, none⟩ = false := by rw [hW2, World.frozen?_alloc_past _ _ _ (by simp)]; exact World.frozen?_alloc_new _ _ _ _
    have f3 : W2.frozen? ⟨w.heap.size, 1, none⟩ = false := by rw [hW2, World.frozen?_alloc_past _ _ _ (by simp)]; exact World.frozen?_alloc_new _ _ _ _
    have hnx : ¬ Ex (w.heap.size + 1) W2 w.heap.size := fun he => by have := (hk0.ex he).1; omega
    have hbx : ∀ k, Ex (w.heap.size + 1) W2 k → w.heap.size + 1 ≤ k := fun k he => (hk0.ex he).1
    clear hW2
    refine (HB.out (w.heap.size + 1) W2 ⟨_, hk0⟩).mono ?_
    rintro e w3 ⟨rfl, _, hk3⟩
    have hlt : w.heap.size < W2.heap.size := by omega
    have d2 := (World.cell?_of_block (a := ⟨w.heap.size, 0, none⟩) (hk3.keep _ hlt hnx)).trans c2
    have d3 := (World.cell?_of_block (a := ⟨w.heap.size, 1, none⟩) (hk3.keep _ hlt hnx)).trans c3
    have g2 := (World.frozen?_of_block (a := ⟨w.heap.size, 0, none⟩) (hk3.keep _ hlt hnx)).trans f2
    have g3 := (World.frozen?_of_block (a := ⟨w.heap.size, 1, none⟩) (hk3.keep _ hlt hnx)).trans f3
    have HB3 : Hid (Below w.heap.size w w3) := Lib.hid (hB2.trans ((hk3.to_below (by omega) hbx).mono (by omega)))
    have HR : Hid (gmvR O = .tuple #[.agg #[.int .i64 (O.getD (0, 0)).1, .int .i64 (O.getD (0, 0)).2], .bool O.isSome]) := Lib.hid rfl
    rw [HR.out]
    generalize (O.getD (0, 0)).1 = x at *
    generalize (O.getD (0, 0)).2 = y at *
    generalize O.isSome = b at *
    clear c2 c3 f2 f3 hk3 hk0 hnx hbx hB2 HB
    go_wp2
    (try simp only [Exit.inBlock, Exit.then]); refine bodyPost_ret (results_sG _ _ w.heap.size (.int .i64 x) (.int .i64 y) rfl ?_ ?_) rfl ?_
    · exact (two_set d2 d3).1
    · exact (two_set d2 d3).2
    · exact ⟨by first | exact congrArg Ending.returned HR.out.symm | rfl, (HB3.out.setCell (Nat.le_refl _) _).setCell (Nat.le_refl _) _⟩
end Go.Proofs.Ytflpncdnneapmaa
