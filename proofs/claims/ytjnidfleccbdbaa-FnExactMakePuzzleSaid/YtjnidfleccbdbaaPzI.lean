/- Contracts: what a clue tells of a line, the program's. -/
import Derived.Test.YtjnidfleccbdbaaPzH
namespace Go.Proofs.Ytjnidfleccbdbaa
open Go.RowKit

theorem results_cl (tmps : Array Value) (w : World) (g : Nat) (x y z : Value) (hp : tmps.getD 8 undef = .pointer (some ⟨g, 0, none⟩)) (c0 : w.cell? ⟨g, 0, none⟩ = some x) (c1 : w.cell? ⟨g, 1, none⟩ = some y) (c2 : w.cell? ⟨g, 2, none⟩ = some z) :
    (results Try.f31 tmps).run Try.prog w = .ok (.agg #[x, y, z]) w := by
  have hr : Try.f31.results = #[.cell 8 34] := rfl
  unfold results
  rw [hr]
  simp at hp
  simp [hp, asAddr, c0, c1, c2, go_sem]
theorem grown_set (W : World) (b o : Nat) (v : Value) : W.grownBy (W.setCell ⟨b, o, none⟩ v) (some b) :=
  ⟨rfl, rfl, rfl, by simp, fun k _ hne => Below.heap_setCell _ _ _ k (fun e => hne (by rw [e]))⟩
theorem TellI.setP {W : World} {L B Bt Br Bs : Nat} (h : TellI W L B Bt Br Bs) (gc k : Nat) (v : Value) (h0 : gc ≠ B) (h1 : gc ≠ Bt) (h2 : gc ≠ Br) (h3 : gc ≠ Bs) : TellI (W.setCell ⟨gc, k, none⟩ v) L B Bt Br Bs := by
  obtain ⟨⟨D, m1, m2⟩, hb⟩ := h
  have e : ∀ b, gc ≠ b → (W.setCell ⟨gc, k, none⟩ v).cell? ⟨b, 0, none⟩ = W.cell? ⟨b, 0, none⟩ := fun b hne => World.cell?_setCell_other _ _ _ _ (by intro e; injection e with e _; exact hne e)
  exact ⟨⟨D, m1.kept (grown_set W gc k v) (by intro e; injection e with e; exact h0 e.symm), m2⟩, ⟨(e _ h1).trans hb.told, (e _ h2).trans hb.rule, (e _ h3).trans hb.tell, by simpa using hb.lt, hb.ne⟩⟩
theorem KpM.setN {B : Nat} {w W : World} (h : KpM B w W) {b o : Nat} (hb : w.heap.size ≤ b) (v : Value) : KpM B w (W.setCell ⟨b, o, none⟩ v) :=
  ⟨h.os, h.tape, h.output, by have := h.far.1; simpa using this, fun k hk hlt => (Below.heap_setCell _ _ _ k (fun e => by have e : k = b := e; omega)).trans (h.far.2 k hk hlt)⟩
theorem KpM.drewN {B : Nat} {w W : World} (h : KpM B w W) : KpM B w W.drew := h.trans (KpM.below (Below.drew (Below.refl _ _)))

/-- The boxes of a clue that is made, while its parts are reckoned. -/
structure CoB (w : World) (L B Bt Br Bs : Nat) (k : Int) (W : World) : Prop where
  kp : KpM B w W
  tell : TellI W L B Bt Br Bs
  old : B < w.heap.size ∧ Bt < w.heap.size ∧ Br < w.heap.size ∧ Bs < w.heap.size
  lt : w.heap.size + 1 < W.heap.size
  c0 : W.cell? ⟨w.heap.size + 1, 0, none⟩ = some (.int .i64 k)
  c1 : W.cell? ⟨w.heap.size + 1, 1, none⟩ = some (.int .i64 0)
  c2 : W.cell? ⟨w.heap.size + 1, 2, none⟩ = some (.int .i64 0)
  fc : ∀ o, W.frozen? ⟨w.heap.size + 1, o, none⟩ = false
  r0 : W.cell? ⟨w.heap.size, 0, none⟩ = some (.int .i64 0)
  r1 : W.cell? ⟨w.heap.size, 1, none⟩ = some (.int .i64 0)
  r2 : W.cell? ⟨w.heap.size, 2, none⟩ = some (.int .i64 0)
  fr : ∀ o, W.frozen? ⟨w.heap.size, o, none⟩ = false
abbrev coW (w : World) (k : Int) : World := (w.alloc (Obj.cells #[.int .i64 0, .int .i64 0, .int .i64 0] 34)).alloc (Obj.cells #[.int .i64 k, .int .i64 0, .int .i64 0] 34)
theorem CoB.start {w : World} {L B Bt Br Bs : Nat} (h : TellI w L B Bt Br Bs) (k : Int) : CoB w L B Bt Br Bs k (coW w k) := by
  have hB : Below w.heap.size w (coW w k) := ((Below.refl _ _).alloc (Nat.le_refl _) _).alloc (by simp) _
  refine ⟨KpM.below hB, h.below hB, ⟨h.map.lt, h.box.lt⟩, by simp [coW], ?_, ?_, ?_, ?_, ?_, ?_, ?_, ?_⟩
  · rw [cell_new' _ _ _ _ _ (by simp)]; rfl
  · rw [cell_new' _ _ _ _ _ (by simp)]; rfl
  · rw [cell_new' _ _ _ _ _ (by simp)]; rfl
  · intro o; exact frozen_new' _ _ _ _ _ (by simp)
  · rw [World.cell?_alloc_past _ _ _ (by simp), cell_new' _ _ _ _ _ rfl]; rfl
  · rw [World.cell?_alloc_past _ _ _ (by simp), cell_new' _ _ _ _ _ rfl]; rfl
  · rw [World.cell?_alloc_past _ _ _ (by simp), cell_new' _ _ _ _ _ rfl]; rfl
  · intro o; rw [frozen_past' _ _ _ _ (by simp)]; exact frozen_new' _ _ _ _ _ rfl
theorem CoB.step {w W W' : World} {L B Bt Br Bs : Nat} {k : Int} (h : CoB w L B Bt Br Bs k W) (hk : KpM B W W') (ht : TellI W' L B Bt Br Bs) : CoB w L B Bt Br Bs k W' := by
  have a := h.lt
  have b := h.old.1
  exact ⟨h.kp.trans hk, ht, h.old, Nat.lt_of_lt_of_le a hk.size, (hk.cell a (by omega)).trans h.c0, (hk.cell a (by omega)).trans h.c1, (hk.cell a (by omega)).trans h.c2, fun o => (hk.frozen a (by omega)).trans (h.fc o), (hk.cell (by omega) (by omega)).trans h.r0, (hk.cell (by omega) (by omega)).trans h.r1, (hk.cell (by omega) (by omega)).trans h.r2, fun o => (hk.frozen (by omega) (by omega)).trans (h.fr o)⟩
theorem CoB.below {w W W' : World} {L B Bt Br Bs : Nat} {k : Int} (h : CoB w L B Bt Br Bs k W) (hb : Below W.heap.size W W') : CoB w L B Bt Br Bs k W' := h.step (KpM.below hb) (h.tell.below hb)
/-- Three stores. -/
theorem set3 {W : World} {h : Nat} {a b c : Value} (x y z : Value) (r0 : W.cell? ⟨h, 0, none⟩ = some a) (r1 : W.cell? ⟨h, 1, none⟩ = some b) (r2 : W.cell? ⟨h, 2, none⟩ = some c) :
    (((W.setCell ⟨h, 0, none⟩ x).setCell ⟨h, 1, none⟩ y).setCell ⟨h, 2, none⟩ z).cell? ⟨h, 0, none⟩ = some x ∧ (((W.setCell ⟨h, 0, none⟩ x).setCell ⟨h, 1, none⟩ y).setCell ⟨h, 2, none⟩ z).cell? ⟨h, 1, none⟩ = some y ∧ (((W.setCell ⟨h, 0, none⟩ x).setCell ⟨h, 1, none⟩ y).setCell ⟨h, 2, none⟩ z).cell? ⟨h, 2, none⟩ = some z := by
  have n01 : (⟨h, 1, none⟩ : Addr) ≠ ⟨h, 0, none⟩ := by intro e; injection e with _ e; omega
  have n02 : (⟨h, 2, none⟩ : Addr) ≠ ⟨h, 0, none⟩ := by intro e; injection e with _ e; omega
  have n12 : (⟨h, 2, none⟩ : Addr) ≠ ⟨h, 1, none⟩ := by intro e; injection e with _ e; omega
  have n10 : (⟨h, 0, none⟩ : Addr) ≠ ⟨h, 1, none⟩ := by intro e; injection e with _ e; omega
  have n20 : (⟨h, 0, none⟩ : Addr) ≠ ⟨h, 2, none⟩ := by intro e; injection e with _ e; omega
  have n21 : (⟨h, 1, none⟩ : Addr) ≠ ⟨h, 2, none⟩ := by intro e; injection e with _ e; omega
  refine ⟨?_, ?_, ?_⟩
  · rw [World.cell?_setCell_other _ _ _ _ n02, World.cell?_setCell_other _ _ _ _ n01]
    exact World.cell?_setCell_same _ _ _ r0
  · rw [World.cell?_setCell_other _ _ _ _ n12]
    exact World.cell?_setCell_same _ _ _ (by rw [World.cell?_setCell_other _ _ _ _ n10]; exact r1)
  · exact World.cell?_setCell_same _ _ _ (by rw [World.cell?_setCell_other _ _ _ _ n21, World.cell?_setCell_other _ _ _ _ n20]; exact r2)
/-- The clue as it is answered. -/
def clVal (k a : Int) (l : List UInt8) : Value := if k = 0 then .agg #[.int .i64 0, .int .i64 a, .int .i64 (clV 0 a.toNat l)] else .agg #[.int .i64 k, .int .i64 (clV k 0 l), .int .i64 0]
/-- What the call leaves. -/
def CoP (w : World) (L B Bt Br Bs : Nat) (v : Value) (e : Ending) (w' : World) : Prop := e = .returned v ∧ TellI w' L B Bt Br Bs ∧ KpM B w w'
theorem CoB.end1 {w W : World} {L B Bt Br Bs : Nat} {k : Int} (h : CoB w L B Bt Br Bs k W) (V : Value) :
    (((((W.setCell ⟨w.heap.size + 1, 1, none⟩ V).setCell ⟨w.heap.size, 0, none⟩ (.int .i64 k)).setCell ⟨w.heap.size, 1, none⟩ V).setCell ⟨w.heap.size, 2, none⟩ (.int .i64 0)).cell? ⟨w.heap.size, 0, none⟩ = some (.int .i64 k) ∧ ((((W.setCell ⟨w.heap.size + 1, 1, none⟩ V).setCell ⟨w.heap.size, 0, none⟩ (.int .i64 k)).setCell ⟨w.heap.size, 1, none⟩ V).setCell ⟨w.heap.size, 2, none⟩ (.int .i64 0)).cell? ⟨w.heap.size, 1, none⟩ = some V ∧ ((((W.setCell ⟨w.heap.size + 1, 1, none⟩ V).setCell ⟨w.heap.size, 0, none⟩ (.int .i64 k)).setCell ⟨w.heap.size, 1, none⟩ V).setCell ⟨w.heap.size, 2, none⟩ (.int .i64 0)).cell? ⟨w.heap.size, 2, none⟩ = some (.int .i64 0)) ∧
    TellI ((((W.setCell ⟨w.heap.size + 1, 1, none⟩ V).setCell ⟨w.heap.size, 0, none⟩ (.int .i64 k)).setCell ⟨w.heap.size, 1, none⟩ V).setCell ⟨w.heap.size, 2, none⟩ (.int .i64 0)) L B Bt Br Bs ∧ KpM B w ((((W.setCell ⟨w.heap.size + 1, 1, none⟩ V).setCell ⟨w.heap.size, 0, none⟩ (.int .i64 k)).setCell ⟨w.heap.size, 1, none⟩ V).setCell ⟨w.heap.size, 2, none⟩ (.int .i64 0)) := by
  obtain ⟨o1, o2, o3, o4⟩ := h.old
  have ne : ∀ o, (⟨w.heap.size + 1, 1, none⟩ : Addr) ≠ ⟨w.heap.size, o, none⟩ := fun o e => by injection e with e; omega
  have q : ∀ b, (b = w.heap.size ∨ b = w.heap.size + 1) → b ≠ B ∧ b ≠ Bt ∧ b ≠ Br ∧ b ≠ Bs := fun b hb => by omega
  have qa := q _ (.inl rfl)
  have qb := q _ (.inr rfl)
  refine ⟨set3 _ _ _ (by rw [World.cell?_setCell_other _ _ _ _ (ne _)]; exact h.r0) (by rw [World.cell?_setCell_other _ _ _ _ (ne _)]; exact h.r1) (by rw [World.cell?_setCell_other _ _ _ _ (ne _)]; exact h.r2), ?_, ?_⟩
  · exact ((((h.tell.setP _ _ _ qb.1 qb.2.1 qb.2.2.1 qb.2.2.2).setP _ _ _ qa.1 qa.2.1 qa.2.2.1 qa.2.2.2).setP _ _ _ qa.1 qa.2.1 qa.2.2.1 qa.2.2.2).setP _ _ _ qa.1 qa.2.1 qa.2.2.1 qa.2.2.2)
  · exact (((h.kp.setN (by omega) _).setN (Nat.le_refl _) _).setN (Nat.le_refl _) _).setN (Nat.le_refl _) _
theorem CoB.end0 {w W : World} {L B Bt Br Bs : Nat} {k : Int} (h : CoB w L B Bt Br Bs k W) (A V : Value) :
    ((((((W.setCell ⟨w.heap.size + 1, 1, none⟩ A).setCell ⟨w.heap.size + 1, 2, none⟩ V).setCell ⟨w.heap.size, 0, none⟩ (.int .i64 k)).setCell ⟨w.heap.size, 1, none⟩ A).setCell ⟨w.heap.size, 2, none⟩ V).cell? ⟨w.heap.size, 0, none⟩ = some (.int .i64 k) ∧ (((((W.setCell ⟨w.heap.size + 1, 1, none⟩ A).setCell ⟨w.heap.size + 1, 2, none⟩ V).setCell ⟨w.heap.size, 0, none⟩ (.int .i64 k)).setCell ⟨w.heap.size, 1, none⟩ A).setCell ⟨w.heap.size, 2, none⟩ V).cell? ⟨w.heap.size, 1, none⟩ = some A ∧ (((((W.setCell ⟨w.heap.size + 1, 1, none⟩ A).setCell ⟨w.heap.size + 1, 2, none⟩ V).setCell ⟨w.heap.size, 0, none⟩ (.int .i64 k)).setCell ⟨w.heap.size, 1, none⟩ A).setCell ⟨w.heap.size, 2, none⟩ V).cell? ⟨w.heap.size, 2, none⟩ = some V) ∧
    TellI (((((W.setCell ⟨w.heap.size + 1, 1, none⟩ A).setCell ⟨w.heap.size + 1, 2, none⟩ V).setCell ⟨w.heap.size, 0, none⟩ (.int .i64 k)).setCell ⟨w.heap.size, 1, none⟩ A).setCell ⟨w.heap.size, 2, none⟩ V) L B Bt Br Bs ∧ KpM B w (((((W.setCell ⟨w.heap.size + 1, 1, none⟩ A).setCell ⟨w.heap.size + 1, 2, none⟩ V).setCell ⟨w.heap.size, 0, none⟩ (.int .i64 k)).setCell ⟨w.heap.size, 1, none⟩ A).setCell ⟨w.heap.size, 2, none⟩ V) := by
  obtain ⟨o1, o2, o3, o4⟩ := h.old
  have ne : ∀ i o, (⟨w.heap.size + 1, i, none⟩ : Addr) ≠ ⟨w.heap.size, o, none⟩ := fun i o e => by injection e with e; omega
  have q : ∀ b, (b = w.heap.size ∨ b = w.heap.size + 1) → b ≠ B ∧ b ≠ Bt ∧ b ≠ Br ∧ b ≠ Bs := fun b hb => by omega
  have qa := q _ (.inl rfl)
  have qb := q _ (.inr rfl)
  refine ⟨set3 _ _ _ (by rw [World.cell?_setCell_other _ _ _ _ (ne _ _), World.cell?_setCell_other _ _ _ _ (ne _ _)]; exact h.r0) (by rw [World.cell?_setCell_other _ _ _ _ (ne _ _), World.cell?_setCell_other _ _ _ _ (ne _ _)]; exact h.r1) (by rw [World.cell?_setCell_other _ _ _ _ (ne _ _), World.cell?_setCell_other _ _ _ _ (ne _ _)]; exact h.r2), ?_, ?_⟩
  · exact (((((h.tell.setP _ _ _ qb.1 qb.2.1 qb.2.2.1 qb.2.2.2).setP _ _ _ qb.1 qb.2.1 qb.2.2.1 qb.2.2.2).setP _ _ _ qa.1 qa.2.1 qa.2.2.1 qa.2.2.2).setP _ _ _ qa.1 qa.2.1 qa.2.2.1 qa.2.2.2).setP _ _ _ qa.1 qa.2.1 qa.2.2.1 qa.2.2.2)
  · exact ((((h.kp.setN (by omega) _).setN (by omega) _).setN (Nat.le_refl _) _).setN (Nat.le_refl _) _).setN (Nat.le_refl _) _

set_option maxRecDepth 100000 in
set_option maxHeartbeats 2000000 in
theorem clueOf_any (L B Bt Br Bs : Nat) (l : List UInt8) (k a : Int) (w : World) (hL : l.length = L) (hg : goodL (str l) = true) (h5 : l.length ≤ 5) (hk : 0 ≤ k ∧ k ≤ 5) (ha : k = 0 → 0 ≤ a ∧ a < l.length) (hI : TellI w L B Bt Br Bs) :
    Calls Try.prog 31 #[telV Bt Br Bs, .string (str l), .int .i64 k, .int .i64 a] w (CoP w L B Bt Br Bs (clVal k a l)) := by
  have hsz : (str l).size = l.length := str_size l
  have HC := Lib.hid (fun wx => countOf_any (str l) wx (by rw [hsz]; unfold maxLen; omega))
  have HCV : Hid (countsOr (str l) = .tuple #[.int .i64 (cnt 84 l), .int .i64 (cnt 46 l), .int .i64 (cnt 70 l), .bool true]) := Lib.hid (by unfold countsOr; rw [hg, byt_str]; rfl)
  rw [HCV.out] at HC
  clear HCV
  have HX := Lib.hid (CoB.start hI k)
  have h : k = 0 ∨ k = 1 ∨ k = 2 ∨ k = 3 ∨ k = 4 ∨ k = 5 := by omega
  rcases h with rfl | rfl | rfl | rfl | rfl | rfl
  · obtain ⟨a0, a1⟩ := ha rfl
    obtain ⟨n, rfl⟩ : ∃ n : Nat, a = n := ⟨a.toNat, by omega⟩
    have hn : n < l.length := by omega
    have hns : n < (str l).size := by omega
    have HI := Lib.hid (fun wx => index_any' ((str l)[n]) wx)
    have hsg : isSign (str l)[n] = true := good_sign hg n hns
    have HV : Hid (clVal 0 n l = .agg #[.int .i64 0, .int .i64 n, .int .i64 (sgIx (str l)[n])]) := Lib.hid (by
      unfold clVal clV
      rw [if_pos rfl, if_pos rfl, Int.toNat_natCast]
      have e : l.getD n 0 = (str l)[n] := by
        rw [List.getD_eq_getElem?_getD, List.getElem?_eq_getElem hn]
        simp [str]
        rfl
      rw [e]
      generalize (str l)[n] = s at hsg ⊢
      rcases sign_cases s with rfl | rfl | rfl | h
      · rfl
      · rfl
      · rfl
      · rw [h] at hsg; cases hsg)
    rw [HV.out]
    generalize hcb : (str l)[n] = cb at *
    have hi0 : (0 : Int) ≤ (n : Int) := by omega
    have hi1 : (n : Int) < ((str l).size : Int) := by omega
    go_enter Try.func31, Try.ntmps31
    go_wp2_with fail
    refine (HC.out _).mono ?_
    rintro e w' ⟨rfl, rfl⟩
    obtain ⟨W, hW⟩ : ∃ W, W = coW w 0 := ⟨_, rfl⟩
    rw [← hW] at HX
    have X := HX.out
    have b0 := X.c0
    have b1 := X.c1
    have b2 := X.c2
    have e0 := X.fc 1
    have e1 := X.fc 2
    have r0 := X.r0
    have r1 := X.r1
    have r2 := X.r2
    have f0 := X.fr 0
    have f1 := X.fr 1
    have f2 := X.fr 2
    clear X
    delta coW at hW
    rw [← hW]
    clear hW
    go_wp2_with fail
    refine (HI.out _).mono ?_
    rintro e w' ⟨rfl, rfl⟩
    have HE := Lib.hid (HX.out.end0 (.int .i64 n) (.int .i64 (sgIx cb)))
    go_wp2_with fail
    exact bodyPost_ret (results_cl _ _ w.heap.size (.int .i64 0) (.int .i64 n) (.int .i64 (sgIx cb)) rfl HE.out.1.1 HE.out.1.2.1 HE.out.1.2.2) rfl ⟨rfl, HE.out.2.1, HE.out.2.2⟩
  · clear ha
    have HV : Hid (clVal 1 a l = .agg #[.int .i64 1, .int .i64 (cnt 84 l), .int .i64 0]) := Lib.hid rfl
    rw [HV.out]
    generalize str l = s at *
    go_enter Try.func31, Try.ntmps31
    go_wp2_with fail
    refine (HC.out _).mono ?_
    rintro e w' ⟨rfl, rfl⟩
    obtain ⟨W, hW⟩ : ∃ W, W = coW w 1 := ⟨_, rfl⟩
    rw [← hW] at HX
    have X := HX.out
    have b0 := X.c0
    have b1 := X.c1
    have b2 := X.c2
    have e0 := X.fc 1
    have e1 := X.fc 2
    have r0 := X.r0
    have r1 := X.r1
    have r2 := X.r2
    have f0 := X.fr 0
    have f1 := X.fr 1
    have f2 := X.fr 2
    clear X
    delta coW at hW
    rw [← hW]
    clear hW
    have HE := Lib.hid (HX.out.end1 (.int .i64 (cnt 84 l)))
    go_wp2_with fail
    exact bodyPost_ret (results_cl _ _ w.heap.size (.int .i64 1) (.int .i64 (cnt 84 l)) (.int .i64 0) rfl HE.out.1.1 HE.out.1.2.1 HE.out.1.2.2) rfl ⟨rfl, HE.out.2.1, HE.out.2.2⟩
  · clear ha
    have HV : Hid (clVal 2 a l = .agg #[.int .i64 2, .int .i64 (cnt 70 l), .int .i64 0]) := Lib.hid rfl
    rw [HV.out]
    generalize str l = s at *
    go_enter Try.func31, Try.ntmps31
    go_wp2_with fail
    refine (HC.out _).mono ?_
    rintro e w' ⟨rfl, rfl⟩
    obtain ⟨W, hW⟩ : ∃ W, W = coW w 2 := ⟨_, rfl⟩
    rw [← hW] at HX
    have X := HX.out
    have b0 := X.c0
    have b1 := X.c1
    have b2 := X.c2
    have e0 := X.fc 1
    have e1 := X.fc 2
    have r0 := X.r0
    have r1 := X.r1
    have r2 := X.r2
    have f0 := X.fr 0
    have f1 := X.fr 1
    have f2 := X.fr 2
    clear X
    delta coW at hW
    rw [← hW]
    clear hW
    have HE := Lib.hid (HX.out.end1 (.int .i64 (cnt 70 l)))
    go_wp2_with fail
    exact bodyPost_ret (results_cl _ _ w.heap.size (.int .i64 2) (.int .i64 (cnt 70 l)) (.int .i64 0) rfl HE.out.1.1 HE.out.1.2.1 HE.out.1.2.2) rfl ⟨rfl, HE.out.2.1, HE.out.2.2⟩
  · clear ha
    have HM := Lib.hid (fun wx => movesOf_any (str l) wx (by rw [hsz]; unfold maxLen; omega))
    have hm : mvsOr (canM (str l)) (str l) = mvsTo (canM (str l)) (str l) l.length := by unfold mvsOr; rw [if_pos hg, hsz]
    rw [hm, hg] at HM
    clear hm
    have HV : Hid (clVal 3 a l = .agg #[.int .i64 3, .int .i64 ((mvsTo (canM (str l)) (str l) l.length).length : Nat), .int .i64 0]) := Lib.hid rfl
    rw [HV.out]
    generalize mvsTo (canM (str l)) (str l) l.length = M at *
    generalize str l = s at *
    go_enter Try.func31, Try.ntmps31
    go_wp2_with fail
    refine (HC.out _).mono ?_
    rintro e w' ⟨rfl, rfl⟩
    obtain ⟨W, hW⟩ : ∃ W, W = coW w 3 := ⟨_, rfl⟩
    rw [← hW] at HX
    have X := HX.out
    have b0 := X.c0
    have b1 := X.c1
    have b2 := X.c2
    have e0 := X.fc 1
    have e1 := X.fc 2
    have r0 := X.r0
    have r1 := X.r1
    have r2 := X.r2
    have f0 := X.fr 0
    have f1 := X.fr 1
    have f2 := X.fr 2
    clear X
    delta coW at hW
    rw [← hW]
    clear hW
    go_wp2_with fail
    refine (HM.out _).mono ?_
    rintro e w1 ⟨v, rfl, o1, hb1⟩
    obtain ⟨A, cap, rfl, _⟩ := at_of_own o1
    have HX1 := Lib.hid (HX.out.below hb1)
    clear o1 hb1 b0 b1 b2 e0 e1 r0 r1 r2 f0 f1 f2 HX
    have X := HX1.out
    have b0 := X.c0
    have b1 := X.c1
    have b2 := X.c2
    have e0 := X.fc 1
    have r0 := X.r0
    have r1 := X.r1
    have r2 := X.r2
    have f0 := X.fr 0
    have f1 := X.fr 1
    have f2 := X.fr 2
    clear X
    have HE := Lib.hid (HX1.out.end1 (.int .i64 (M.length : Nat)))
    go_wp2_with fail
    exact bodyPost_ret (results_cl _ _ w.heap.size (.int .i64 3) (.int .i64 (M.length : Nat)) (.int .i64 0) rfl HE.out.1.1 HE.out.1.2.1 HE.out.1.2.2) rfl ⟨rfl, HE.out.2.1, HE.out.2.2⟩
  · clear ha
    have HM := Lib.hid (fun wx => pairs_any (str l) wx (by rw [hsz]; unfold maxLen; omega))
    rw [hg, byt_str, show intOr true ((pairSt l).1 : Nat) = .tuple #[.int .i64 ((pairSt l).1 : Nat), .bool true] from rfl] at HM
    have HV : Hid (clVal 4 a l = .agg #[.int .i64 4, .int .i64 ((pairSt l).1 : Nat), .int .i64 0]) := Lib.hid rfl
    rw [HV.out]
    generalize (pairSt l).1 = M at *
    generalize str l = s at *
    go_enter Try.func31, Try.ntmps31
    go_wp2_with fail
    refine (HC.out _).mono ?_
    rintro e w' ⟨rfl, rfl⟩
    obtain ⟨W, hW⟩ : ∃ W, W = coW w 4 := ⟨_, rfl⟩
    rw [← hW] at HX
    have X := HX.out
    have b0 := X.c0
    have b1 := X.c1
    have b2 := X.c2
    have e0 := X.fc 1
    have e1 := X.fc 2
    have r0 := X.r0
    have r1 := X.r1
    have r2 := X.r2
    have f0 := X.fr 0
    have f1 := X.fr 1
    have f2 := X.fr 2
    clear X
    delta coW at hW
    rw [← hW]
    clear hW
    go_wp2_with fail
    refine (HM.out _).mono ?_
    rintro e w' ⟨rfl, rfl⟩
    have HE := Lib.hid (HX.out.end1 (.int .i64 (M : Nat)))
    go_wp2_with fail
    exact bodyPost_ret (results_cl _ _ w.heap.size (.int .i64 4) (.int .i64 (M : Nat)) (.int .i64 0) rfl HE.out.1.1 HE.out.1.2.1 HE.out.1.2.2) rfl ⟨rfl, HE.out.2.1, HE.out.2.2⟩
  · clear ha
    have hok : sumOk [l] = true := by rw [sumOk_one]; unfold fewB; rw [hg]; simp [hsz]; omega
    have hj : joinG [l] = l := by simp [joinG]
    have HO := Lib.hid (fun wx (h : TellI wx L B Bt Br Bs) => outcomeOf_yes L B Bt Br Bs [l] (some ⟨wx.heap.size, 0, none⟩) 1 (wx.alloc (.cells #[.string (str l)] 9)) (by rw [hj]; exact hL) (one_slice wx l) (Nat.le_refl _) hok (h.below ((Below.refl _ _).alloc (Nat.le_refl _) _)))
    rw [hj] at HO
    have HV : Hid (clVal 5 a l = .agg #[.int .i64 5, .int .i64 (outI (Wn true l) (Wn false l)), .int .i64 0]) := Lib.hid rfl
    rw [HV.out]
    generalize outI (Wn true l) (Wn false l) = M at *
    generalize str l = s at *
    clear hok hj
    go_enter Try.func31, Try.ntmps31
    go_wp2_with fail
    refine (HC.out _).mono ?_
    rintro e w' ⟨rfl, rfl⟩
    obtain ⟨W, hW⟩ : ∃ W, W = coW w 5 := ⟨_, rfl⟩
    rw [← hW] at HX
    have X := HX.out
    have b0 := X.c0
    have b1 := X.c1
    have b2 := X.c2
    have e0 := X.fc 1
    have e1 := X.fc 2
    have r0 := X.r0
    have r1 := X.r1
    have r2 := X.r2
    have f0 := X.fr 0
    have f1 := X.fr 1
    have f2 := X.fr 2
    clear X
    delta coW at hW
    rw [← hW]
    clear hW
    go_wp2_with fail
    refine (HO.out _ HX.out.tell).mono ?_
    rintro e w1 ⟨rfl, ht1, hk1⟩
    have HX1 := Lib.hid (((HX.out.below ((Below.refl _ _).alloc (Nat.le_refl _) (.cells #[.string s] 9)))).step hk1 ht1)
    clear ht1 hk1 b0 b1 b2 e0 e1 r0 r1 r2 f0 f1 f2 HX
    have X := HX1.out
    have b0 := X.c0
    have b1 := X.c1
    have b2 := X.c2
    have e0 := X.fc 1
    have r0 := X.r0
    have r1 := X.r1
    have r2 := X.r2
    have f0 := X.fr 0
    have f1 := X.fr 1
    have f2 := X.fr 2
    clear X
    have HE := Lib.hid (HX1.out.end1 (.int .i64 M))
    go_wp2_with fail
    exact bodyPost_ret (results_cl _ _ w.heap.size (.int .i64 5) (.int .i64 M) (.int .i64 0) rfl HE.out.1.1 HE.out.1.2.1 HE.out.1.2.2) rfl ⟨rfl, HE.out.2.1, HE.out.2.2⟩
end Go.Proofs.Ytjnidfleccbdbaa
