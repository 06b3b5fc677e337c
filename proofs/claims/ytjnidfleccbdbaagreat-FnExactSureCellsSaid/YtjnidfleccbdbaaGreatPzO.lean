/- Contracts: the program's huntFor, Solutions and what follows from it. -/
import Derived.Test.YtjnidfleccbdbaaGreatPzN
namespace Go.Proofs.YtjnidfleccbdbaaGreat
open Go.RowKit

theorem results_hu (tmps : Array Value) (w : World) (g : Nat) (x y : Value) (hp : tmps.getD 2 undef = .pointer (some ⟨g, 0, none⟩)) (c0 : w.cell? ⟨g, 0, none⟩ = some x) (c1 : w.cell? ⟨g, 1, none⟩ = some y) :
    (results Tryz.f19 tmps).run Tryz.prog w = .ok (.tuple #[.agg #[x, y], tmps.getD 3 undef, tmps.getD 4 undef]) w := by
  have hr : Tryz.f19.results = #[.cell 2 53, .tmp 3, .tmp 4] := rfl
  unfold results
  rw [hr]
  simp at hp
  simp [hp, asAddr, c0, c1, go_sem]
theorem StAt.setN {w : World} {A : Option Addr} {l : List (List UInt8)} (h : StAt w A l) (b k : Nat) (v : Value) (hne : ∀ a, A = some a → a.block ≠ b) : StAt (w.setCell ⟨b, k, none⟩ v) A l := by
  intro j hj
  obtain ⟨g, a, c, d⟩ := h j hj
  have h1 : g ≠ b := hne _ a
  exact ⟨g, a, by simpa using c, (World.cell?_setCell_other _ _ _ _ (by intro e; injection e with e; exact h1 e.symm)).trans d⟩
theorem ClIn.setN {w : World} {g o : Nat} {l : List Cl} (h : ClIn w (some ⟨g, o, none⟩) l) (b k : Nat) (v : Value) (hne : 0 < l.length → g ≠ b) : ClIn (w.setCell ⟨b, k, none⟩ v) (some ⟨g, o, none⟩) l := by
  intro j hj
  obtain ⟨g', o', e, hg, c0, c1, c2⟩ := h j hj
  have h1 := hne (by omega)
  injection e with e
  injection e with e1 e2
  subst e1; subst e2
  have q : ∀ i, (w.setCell ⟨b, k, none⟩ v).cell? ⟨g, i, none⟩ = w.cell? ⟨g, i, none⟩ := fun i => World.cell?_setCell_other _ _ _ _ (by intro e; injection e with e; exact h1 e.symm)
  exact ⟨g, o, rfl, by simpa using hg, by rw [q]; exact c0, by rw [q]; exact c1, by rw [q]; exact c2⟩
/-- Two stores. -/
theorem set2 {W : World} {h : Nat} {a b : Value} (x y : Value) (r0 : W.cell? ⟨h, 0, none⟩ = some a) (r1 : W.cell? ⟨h, 1, none⟩ = some b) :
    ((W.setCell ⟨h, 0, none⟩ x).setCell ⟨h, 1, none⟩ y).cell? ⟨h, 0, none⟩ = some x ∧ ((W.setCell ⟨h, 0, none⟩ x).setCell ⟨h, 1, none⟩ y).cell? ⟨h, 1, none⟩ = some y := by
  have n01 : (⟨h, 1, none⟩ : Addr) ≠ ⟨h, 0, none⟩ := by intro e; injection e with _ e; omega
  have n10 : (⟨h, 0, none⟩ : Addr) ≠ ⟨h, 1, none⟩ := by intro e; injection e with _ e; omega
  refine ⟨?_, ?_⟩
  · rw [World.cell?_setCell_other _ _ _ _ n01]
    exact World.cell?_setCell_same _ _ _ r0
  · exact World.cell?_setCell_same _ _ _ (by rw [World.cell?_setCell_other _ _ _ _ n10]; exact r1)
/-- A hunt for the clues of a puzzle. -/
structure HuntW (w : World) (n : Nat) (l : List Cl) (g o : Nat) (B Bt Br Bs : Nat) (AL : Option Addr) (w' : World) : Prop where
  bel : Below w.heap.size w w'
  at_ : StAt w' AL (grow n [])
  tell : TellI w' n B Bt Br Bs
  inn : ClIn w' (some ⟨g, o, none⟩) l
  new : w.heap.size ≤ B
  ne : ∀ a, AL = some a → a.block ≠ B
def HuP (w : World) (n : Int) (l : List Cl) (g o : Nat) (e : Ending) (w' : World) : Prop :=
  (goodP n l = true ∧ ∃ AL cl B Bt Br Bs, e = .returned (.tuple #[.agg #[.slice AL (3 ^ n.toNat) cl, telV Bt Br Bs], .slice (some ⟨g, o, none⟩) l.length l.length, .bool true]) ∧ HuntW w n.toNat l g o B Bt Br Bs AL w') ∨
  (goodP n l = false ∧ e = .returned (.tuple #[.agg #[.slice none 0 0, .nilFunc], .slice none 0 0, .bool false]) ∧ Below w.heap.size w w')

set_option maxRecDepth 100000 in
set_option maxHeartbeats 2000000 in
theorem huntFor_any (n : Int) (l : List Cl) (g o c : Nat) (w : World) (hin : ClIn w (some ⟨g, o, none⟩) l) (hl : l.length ≤ 2000000) (hc : l.length ≤ c) (hgo : 0 < l.length → g < w.heap.size) :
    Calls Tryz.prog 19 #[.agg #[.int .i64 n, .slice (some ⟨g, o, none⟩) l.length c]] w (HuP w n l g o) := by
  obtain ⟨W0, hW0⟩ : ∃ W0, W0 = (w.alloc (Obj.cells #[.int .i64 n, .slice (some ⟨g, o, none⟩) l.length c] 30)).alloc (Obj.cells #[.slice none 0 0, .nilFunc] 53) := ⟨_, rfl⟩
  have hB0 : Below w.heap.size w W0 := by rw [hW0]; exact ((Below.refl _ _).alloc (Nat.le_refl _) _).alloc (by simp) _
  have hz0 : W0.heap.size = w.heap.size + 1 + 1 := by rw [hW0]; simp
  have p0 : W0.cell? ⟨w.heap.size, 0, none⟩ = some (.int .i64 n) := by rw [hW0, World.cell?_alloc_past _ _ _ (by simp), cell_new' _ _ _ _ _ rfl]; rfl
  have r0 : W0.cell? ⟨w.heap.size + 1, 0, none⟩ = some (.slice none 0 0) := by rw [hW0, cell_new' _ _ _ _ _ (by simp)]; rfl
  have r1 : W0.cell? ⟨w.heap.size + 1, 1, none⟩ = some .nilFunc := by rw [hW0, cell_new' _ _ _ _ _ (by simp)]; rfl
  have f0 : ∀ o, W0.frozen? ⟨w.heap.size + 1, o, none⟩ = false := fun o => by rw [hW0]; exact frozen_new' _ _ _ _ _ (by simp)
  have HCL := Lib.hid (cluesOf_any n l g o c W0 (hin.below hB0) hl hc)
  cases hg : goodP n l
  · rw [hg, show clOr false g o l.length = .tuple #[.slice none 0 0, .bool false] from rfl] at HCL
    have HGd := Lib.hid hg
    clear hg
    go_enter Tryz.func19, Tryz.ntmps19
    go_wp2_with fail
    rw [← hW0]
    clear hW0
    refine HCL.out.mono ?_
    rintro e w1 ⟨rfl, hb1⟩
    have q0 := ((bcell hb1).1 (w.heap.size + 1) 0 (by omega)).trans r0
    have q1 := ((bcell hb1).1 (w.heap.size + 1) 1 (by omega)).trans r1
    have e0 : w1.frozen? ⟨w.heap.size + 1, 0, none⟩ = false := by rw [(bcell hb1).2 _ _ (by omega)]; exact f0 0
    have e1 : w1.frozen? ⟨w.heap.size + 1, 1, none⟩ = false := by rw [(bcell hb1).2 _ _ (by omega)]; exact f0 1
    have hB1 := hB0.trans (hb1.mono hB0.size)
    have HE := Lib.hid (set2 (.slice none 0 0) .nilFunc q0 q1)
    have HB : Hid (Below w.heap.size w ((w1.setCell ⟨w.heap.size + 1, 0, none⟩ (.slice none 0 0)).setCell ⟨w.heap.size + 1, 1, none⟩ .nilFunc)) := Lib.hid ((hB1.setCell (by simp) _).setCell (by simp) _)
    clear hb1 hB1 hB0 HCL
    go_wp2_with fail
    exact bodyPost_ret (results_hu _ _ (w.heap.size + 1) (.slice none 0 0) .nilFunc rfl HE.out.1 HE.out.2) rfl (.inr ⟨HGd.out, rfl, HB.out⟩)
  · rw [hg, show clOr true g o l.length = .tuple #[.slice (some ⟨g, o, none⟩) l.length l.length, .bool true] from rfl] at HCL
    have HGd := Lib.hid hg
    obtain ⟨m, rfl, h15⟩ : ∃ m : Nat, n = m ∧ 1 ≤ m ∧ m ≤ 5 := by
      unfold goodP inR at hg
      simp only [Bool.and_eq_true, decide_eq_true_eq] at hg
      exact ⟨n.toNat, by omega, by omega, by omega⟩
    have HH := Lib.hid (fun wx => hiddenLines_any m wx h15)
    have HWN := Lib.hid (fun wx => winning_any m wx)
    have HGL : Hid ((grow m []).length = 3 ^ m) := Lib.hid (grow_len m [])
    have HIN := Lib.hid (hin.below hB0)
    clear hg hin
    have hhb : w.heap.size + 1 < W0.heap.size := by omega
    go_enter Tryz.func19, Tryz.ntmps19
    go_wp2_with fail
    rw [← hW0]
    clear hW0
    refine HCL.out.mono ?_
    rintro e w1 ⟨rfl, hb1⟩
    have p1 := ((bcell hb1).1 w.heap.size 0 (by omega)).trans p0
    have HB1 := Lib.hid hb1
    have hz1 := hb1.size
    clear hb1 HCL
    go_wp2_with fail
    refine (HH.out _).mono ?_
    rintro e w2 ⟨v2, rfl, o2, hb2⟩
    obtain ⟨AL, cl, rfl, _, _, hAt, _, hbl⟩ := st_own o2
    have HAt := Lib.hid hAt
    have HBL := Lib.hid (fun (a : Addr) (ha : AL = some a) => (o2.lt a.block (by rw [ha]; rfl)).2)
    have HOLD := Lib.hid (fun (a : Addr) (ha : AL = some a) => show a.block ≠ w.heap.size + 1 from fun e => by have := (hbl a ha).1; omega)
    have HB2 := Lib.hid (HB1.out.trans (hb2.mono HB1.out.size))
    have hz2 := HB2.out.size
    clear o2 hb2 hAt hbl HB1
    go_wp2_with fail
    refine (HWN.out _).mono ?_
    rintro e w3 ⟨rfl, ht3, hb3⟩
    have HB3 := Lib.hid (HB2.out.trans (hb3.mono HB2.out.size))
    have hz3 := HB3.out.size
    have q0 := ((bcell HB3.out).1 _ _ hhb).trans r0
    have q1 := ((bcell HB3.out).1 _ _ hhb).trans r1
    have e0 : w3.frozen? ⟨w.heap.size + 1, 0, none⟩ = false := by rw [(bcell HB3.out).2 _ _ hhb]; exact f0 0
    have e1 : w3.frozen? ⟨w.heap.size + 1, 1, none⟩ = false := by rw [(bcell HB3.out).2 _ _ hhb]; exact f0 1
    have hB := hB0.trans (HB3.out.mono hB0.size)
    have HAt3 := HAt.out.below hb3
    have HI3 := HIN.out.below HB3.out
    have hHE : HuntW w m l g o (w2.heap.size + 1) (w2.heap.size + 2) w2.heap.size (w2.heap.size + 3) AL ((w3.setCell ⟨w.heap.size + 1, 0, none⟩ (.slice AL (grow m []).length cl)).setCell ⟨w.heap.size + 1, 1, none⟩ (telV (w2.heap.size + 2) w2.heap.size (w2.heap.size + 3))) := by
      refine ⟨(hB.setCell (by simp) _).setCell (by simp) _, ?_, ?_, ?_, by omega, fun a ha => by have := HBL.out a ha; omega⟩
      · exact (HAt3.setN (w.heap.size + 1) 0 _ (fun a ha => HOLD.out a ha)).setN (w.heap.size + 1) 1 _ (fun a ha => HOLD.out a ha)
      · exact (ht3.setP _ _ _ (by omega) (by omega) (by omega) (by omega)).setP _ _ _ (by omega) (by omega) (by omega) (by omega)
      · exact (HI3.setN (w.heap.size + 1) 0 _ (fun hl => by have := hgo hl; omega)).setN (w.heap.size + 1) 1 _ (fun hl => by have := hgo hl; omega)
    have HE := Lib.hid (set2 (.slice AL (grow m []).length cl) (telV (w2.heap.size + 2) w2.heap.size (w2.heap.size + 3)) q0 q1)
    have HHE := Lib.hid hHE
    clear hHE hB0 ht3 hb3 HAt3 HI3 hB
    rw [HGL.out] at HE HHE ⊢
    go_wp2_with fail
    exact bodyPost_ret (results_hu _ _ (w.heap.size + 1) _ _ rfl HE.out.1 HE.out.2) rfl (.inl ⟨HGd.out, AL, cl, _, _, _, _, rfl, HHE.out⟩)
end Go.Proofs.YtjnidfleccbdbaaGreat
