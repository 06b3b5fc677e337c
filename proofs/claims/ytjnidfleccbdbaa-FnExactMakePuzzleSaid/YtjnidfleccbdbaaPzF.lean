/- Contracts: a clue added: the model's and the program's. -/
import Derived.Test.YtjnidfleccbdbaaPzE
import Derived.Deep.RegionLawGrows
namespace Go.Proofs.Ytjnidfleccbdbaa
open Go.RowKit

/-- A clue in its box. -/
structure CxP (b : Nat) (x y z : Int) (wx : World) : Prop where
  lt : b < wx.heap.size
  d0 : wx.cell? ⟨b, 0, none⟩ = some (.int .i64 x)
  d1 : wx.cell? ⟨b, 1, none⟩ = some (.int .i64 y)
  d2 : wx.cell? ⟨b, 2, none⟩ = some (.int .i64 z)
theorem CxP.step {b : Nat} {x y z : Int} {wx wy : World} (h : CxP b x y z wx) (hb : Below wx.heap.size wx wy) : CxP b x y z wy :=
  ⟨Nat.lt_of_lt_of_le h.lt hb.size, by rw [(bcell hb).1 _ _ h.lt]; exact h.d0, by rw [(bcell hb).1 _ _ h.lt]; exact h.d1, by rw [(bcell hb).1 _ _ h.lt]; exact h.d2⟩
theorem CxP.drew {b : Nat} {x y z : Int} {wx : World} (h : CxP b x y z wx) : CxP b x y z wx.drew := ⟨h.lt, h.d0, h.d1, h.d2⟩
abbrev addW (w : World) (n : Int) (v : Value) (x y z : Int) : World := ((w.alloc (Obj.cells #[.int .i64 n, v] 30)).alloc (Obj.cells #[.int .i64 x, .int .i64 y, .int .i64 z] 34)).alloc (Obj.cells #[.int .i64 0, .slice none 0 0] 30)
theorem BxP.start2 (w : World) (n : Int) (v : Value) (x y z : Int) : BxP w (w.heap.size + 1 + 1) n v (addW w n v x y z) ∧ CxP (w.heap.size + 1) x y z (addW w n v x y z) := by
  refine ⟨⟨(((Below.refl _ _).alloc (Nat.le_refl _) _).alloc (by simp) _).alloc (by simp <;> omega) _, by omega, by simp [addW], ?_, ?_, ?_, ?_, ?_⟩, ⟨by simp [addW] <;> omega, ?_, ?_, ?_⟩⟩
  · rw [World.cell?_alloc_past _ _ _ (by simp <;> omega), World.cell?_alloc_past _ _ _ (by simp), cell_new' _ _ _ _ _ rfl]; rfl
  · rw [World.cell?_alloc_past _ _ _ (by simp <;> omega), World.cell?_alloc_past _ _ _ (by simp), cell_new' _ _ _ _ _ rfl]; rfl
  · rw [cell_new' _ _ _ _ _ (by simp)]; rfl
  · rw [cell_new' _ _ _ _ _ (by simp)]; rfl
  · intro o; exact frozen_new' _ _ _ _ _ (by simp)
  · rw [World.cell?_alloc_past _ _ _ (by simp), cell_new' _ _ _ _ _ (by simp)]; rfl
  · rw [World.cell?_alloc_past _ _ _ (by simp), cell_new' _ _ _ _ _ (by simp)]; rfl
  · rw [World.cell?_alloc_past _ _ _ (by simp), cell_new' _ _ _ _ _ (by simp)]; rfl
theorem cell_three_new (w : World) (a b c : Value) (t : TypeId) : ∀ j u, [a, b, c][j]? = some u → (w.alloc (.cells #[a, b, c] t)).cell? ((⟨w.heap.size, 0, none⟩ : Addr).add j) = some u := by
  intro j u h
  rw [addr_add, World.cell?_alloc_new]
  simpa using h
theorem three_one (x y z : Int) : ∀ u ∈ [Value.int .i64 x, .int .i64 y, .int .i64 z], u.oneCell' = true := fun u hu => by simp at hu; rcases hu with rfl | rfl | rfl <;> rfl
theorem own_emptyP (w : World) (o : Obj) : ((w.alloc o).alloc (Obj.cells #[] 34)).ownsRow w.heap.size 34 3 (.slice (some ⟨w.heap.size + 1, 0, none⟩) 0 0) 0 [] := by
  have h := own_empty (w.alloc o) 34 3
  rw [show (w.alloc o).heap.size = w.heap.size + 1 by simp] at h
  exact own_lowerC h (by omega)
theorem cells_kept {W w3 : World} {row : Option Nat} (hg : W.grownBy w3 row) {b : Nat} (hne : some b ≠ row) (hb : b < W.heap.size) {xs : List Value} (h : ∀ j u, xs[j]? = some u → W.cell? ((⟨b, 0, none⟩ : Addr).add j) = some u) : ∀ j u, xs[j]? = some u → w3.cell? ((⟨b, 0, none⟩ : Addr).add j) = some u := by
  intro j u hj
  have h1 := h j u hj
  rw [addr_add] at h1 ⊢
  have e : w3.heap[b]? = W.heap[b]? := hg.block b hb hne
  unfold World.cell? at h1 ⊢
  simp only [e]
  exact h1
/-- What the region reads. -/
abbrev AddS (h : Nat) (n x y z : Int) (v : Value) (wx : World) : Prop := wx.cell? ⟨h, 0, none⟩ = some (.int .i64 n) ∧ wx.cell? ⟨h, 1, none⟩ = some v ∧ wx.cell? ⟨h + 1, 0, none⟩ = some (.int .i64 x) ∧ wx.cell? ⟨h + 1, 1, none⟩ = some (.int .i64 y) ∧ wx.cell? ⟨h + 1, 2, none⟩ = some (.int .i64 z)
/-- May a clue be added? -/
def addOk (n : Int) (l : List Cl) (x y z : Int) : Bool := goodP n l && clueOk n x y z && !(l.length == 6)

set_option maxRecDepth 100000 in
set_option maxHeartbeats 2000000 in
theorem sAddClue_any (n x y z : Int) (l : List Cl) (g o c : Nat) (w : World) (hin : ClIn w (some ⟨g, o, none⟩) l) (hl : l.length ≤ 2000000) :
    Calls Try.prog 6 #[.agg #[.int .i64 n, .slice (some ⟨g, o, none⟩) l.length c], .agg #[.int .i64 x, .int .i64 y, .int .i64 z]] w (PzAns w (addOk n l x y z) n (l ++ [(x, y, z)])) := by
  have hX := BxP.start2 w n (.slice (some ⟨g, o, none⟩) l.length c) x y z
  have HCL := Lib.hid (pzGood_any n l (some ⟨g, o, none⟩) c _ (hin.below hX.1.bel) hl)
  have HX := Lib.hid hX
  have HIN := Lib.hid (hin.below hX.1.bel)
  clear hX hin
  obtain ⟨b, hb⟩ : ∃ b, addOk n l x y z = b := ⟨_, rfl⟩
  rw [hb]
  have HBq := Lib.hid hb
  clear hb
  unfold addOk at HBq
  cases hg : goodP n l
  · obtain rfl : false = b := by rw [← HBq.out, hg]; rfl
    rw [hg] at HCL
    clear hg
    go_enter Try.func6, Try.ntmps6
    go_wp2_with fail
    refine HCL.out.mono ?_
    rintro e w1 ⟨rfl, hb1⟩
    have h1 := HX.out.1.step hb1
    have r0 := h1.r0
    have r1 := h1.r1
    have f0 := h1.fr 0
    have f1 := h1.fr 1
    have HE := Lib.hid (h1.ends (x := .int .i64 0) (World.ownsRow_nil _ w.heap.size 34 3) (Nat.le_refl _) (by simp [Value.ownBlock]))
    clear h1 hb1
    go_wp2_with fail
    exact bodyPost_ret (results_pzc rfl _ _ (w.heap.size + 1 + 1) (.int .i64 0) (.slice none 0 0) rfl HE.out.1 HE.out.2.1) rfl ⟨_, rfl, HE.out.2.2.1, HE.out.2.2.2⟩
  · rw [hg] at HCL
    obtain ⟨h6, h15⟩ : l.length ≤ 6 ∧ (1 ≤ n ∧ n ≤ 5) := by
      unfold goodP inR at hg
      simp only [Bool.and_eq_true, decide_eq_true_eq] at hg
      exact ⟨hg.1.2, hg.1.1⟩
    have HK := Lib.hid (fun wx => pzClue_any n x y z wx h15)
    rw [hg] at HBq
    clear hg
    cases hck : clueOk n x y z
    · obtain rfl : false = b := by rw [← HBq.out, hck]; rfl
      rw [hck] at HK
      clear hck
      go_enter Try.func6, Try.ntmps6
      go_wp2_with fail
      refine HCL.out.mono ?_
      rintro e w1 ⟨rfl, hb1⟩
      have h1 := HX.out.1.step hb1
      have k1 := HX.out.2.step hb1
      have c0 := h1.c0
      have d0 := k1.d0
      have d1 := k1.d1
      have d2 := k1.d2
      have H1 := Lib.hid h1
      clear h1 k1 hb1
      go_wp2_with fail
      refine (HK.out _).mono ?_
      rintro e w2 ⟨rfl, hb2⟩
      have h1 := H1.out.step hb2
      have r0 := h1.r0
      have r1 := h1.r1
      have f0 := h1.fr 0
      have f1 := h1.fr 1
      have HE := Lib.hid (h1.ends (x := .int .i64 0) (World.ownsRow_nil _ w.heap.size 34 3) (Nat.le_refl _) (by simp [Value.ownBlock]))
      clear h1 hb2
      go_wp2_with fail
      exact bodyPost_ret (results_pzc rfl _ _ (w.heap.size + 1 + 1) (.int .i64 0) (.slice none 0 0) rfl HE.out.1 HE.out.2.1) rfl ⟨_, rfl, HE.out.2.2.1, HE.out.2.2.2⟩
    · rw [hck] at HK HBq
      clear hck
      by_cases hsix : l.length = 6
      · obtain rfl : false = b := by rw [← HBq.out, hsix]; rfl
        have hs : ((l.length : Int) == 6) = true := by rw [hsix]; rfl
        clear hsix
        go_enter Try.func6, Try.ntmps6
        go_wp2_with fail
        refine HCL.out.mono ?_
        rintro e w1 ⟨rfl, hb1⟩
        have h1 := HX.out.1.step hb1
        have k1 := HX.out.2.step hb1
        have c0 := h1.c0
        have d0 := k1.d0
        have d1 := k1.d1
        have d2 := k1.d2
        have H1 := Lib.hid h1
        clear h1 k1 hb1
        go_wp2_with fail
        refine (HK.out _).mono ?_
        rintro e w2 ⟨rfl, hb2⟩
        have h1 := H1.out.step hb2
        have c1 := h1.c1
        have r0 := h1.r0
        have r1 := h1.r1
        have f0 := h1.fr 0
        have f1 := h1.fr 1
        have HE := Lib.hid (h1.ends (x := .int .i64 0) (World.ownsRow_nil _ w.heap.size 34 3) (Nat.le_refl _) (by simp [Value.ownBlock]))
        clear h1 hb2
        go_wp2_with fail
        exact bodyPost_ret (results_pzc rfl _ _ (w.heap.size + 1 + 1) (.int .i64 0) (.slice none 0 0) rfl HE.out.1 HE.out.2.1) rfl ⟨_, rfl, HE.out.2.2.1, HE.out.2.2.2⟩
      · obtain rfl : true = b := by rw [← HBq.out]; simp [hsix]
        have hs : ((l.length : Int) == 6) = false := by rw [beq_eq_false_iff_ne]; omega
        have hl5 : l.length ≤ 5 := by omega
        clear hsix
        obtain ⟨i0, hi, hz0, hz1, hz2⟩ := info_parts Try.infoC
        have HI := Lib.hid hi
        have HZ0 := Lib.hid hz0
        have HZ1 := Lib.hid hz1
        have HZ2 := Lib.hid hz2
        clear hi hz0 hz1 hz2
        go_enter Try.func6, Try.ntmps6
        go_wp2_with fail
        refine HCL.out.mono ?_
        rintro e w1 ⟨rfl, hb1⟩
        have h1 := HX.out.1.step hb1
        have k1 := HX.out.2.step hb1
        have c0 := h1.c0
        have d0 := k1.d0
        have d1 := k1.d1
        have d2 := k1.d2
        have H1 := Lib.hid h1
        have K1 := Lib.hid k1
        have HI1 := Lib.hid (HIN.out.below hb1)
        clear h1 k1 hb1
        go_wp2_with fail
        refine (HK.out _).mono ?_
        rintro e w2 ⟨rfl, hb2⟩
        have h1 := H1.out.step hb2
        have c0 := h1.c0
        have c1 := h1.c1
        have H2 := Lib.hid h1
        have K2 := Lib.hid (K1.out.step hb2)
        have HI2 := Lib.hid (HI1.out.below hb2)
        clear h1 hb2 H1 K1 HI1 d0 d1 d2
        have hS : ∀ wx, Below w2.heap.size w2 wx → AddS w.heap.size n x y z (.slice (some ⟨g, o, none⟩) l.length c) wx := fun wx hb => ⟨(H2.out.step hb).c0, (H2.out.step hb).c1, (K2.out.step hb).d0, (K2.out.step hb).d1, (K2.out.step hb).d2⟩
        have hT : ∀ (wx : World) (u v : Value), AddS w.heap.size n x y z (.slice (some ⟨g, o, none⟩) l.length c) wx → AddS w.heap.size n x y z (.slice (some ⟨g, o, none⟩) l.length c) ((wx.setCell ⟨w.heap.size + 1 + 1, 0, none⟩ u).setCell ⟨w.heap.size + 1 + 1, 1, none⟩ v) := fun wx u v h => by
          unfold AddS at h ⊢
          simp only [World.cell?_setCell_other _ _ _ _ (show (⟨w.heap.size + 1 + 1, 1, none⟩ : Addr) ≠ ⟨w.heap.size, 0, none⟩ from fun e => by injection e with e; omega), World.cell?_setCell_other _ _ _ _ (show (⟨w.heap.size + 1 + 1, 0, none⟩ : Addr) ≠ ⟨w.heap.size, 0, none⟩ from fun e => by injection e with e; omega), World.cell?_setCell_other _ _ _ _ (show (⟨w.heap.size + 1 + 1, 1, none⟩ : Addr) ≠ ⟨w.heap.size, 1, none⟩ from fun e => by injection e with e; omega), World.cell?_setCell_other _ _ _ _ (show (⟨w.heap.size + 1 + 1, 0, none⟩ : Addr) ≠ ⟨w.heap.size, 1, none⟩ from fun e => by injection e with e; omega), World.cell?_setCell_other _ _ _ _ (show (⟨w.heap.size + 1 + 1, 1, none⟩ : Addr) ≠ ⟨w.heap.size + 1, 0, none⟩ from fun e => by injection e with e; omega), World.cell?_setCell_other _ _ _ _ (show (⟨w.heap.size + 1 + 1, 0, none⟩ : Addr) ≠ ⟨w.heap.size + 1, 0, none⟩ from fun e => by injection e with e; omega), World.cell?_setCell_other _ _ _ _ (show (⟨w.heap.size + 1 + 1, 1, none⟩ : Addr) ≠ ⟨w.heap.size + 1, 1, none⟩ from fun e => by injection e with e; omega), World.cell?_setCell_other _ _ _ _ (show (⟨w.heap.size + 1 + 1, 0, none⟩ : Addr) ≠ ⟨w.heap.size + 1, 1, none⟩ from fun e => by injection e with e; omega), World.cell?_setCell_other _ _ _ _ (show (⟨w.heap.size + 1 + 1, 1, none⟩ : Addr) ≠ ⟨w.heap.size + 1, 2, none⟩ from fun e => by injection e with e; omega), World.cell?_setCell_other _ _ _ _ (show (⟨w.heap.size + 1 + 1, 0, none⟩ : Addr) ≠ ⟨w.heap.size + 1, 2, none⟩ from fun e => by injection e with e; omega)]
          exact h
        have HS := Lib.hid hS
        have HT := Lib.hid hT
        clear hS hT
        go_wp2_with fail
        clear c0 c1
        have BSZ1 : w2.heap.size ≤ ((w2.alloc (Obj.cells #[] 34)).drew).heap.size := by show w2.heap.size ≤ (World.alloc _ _).heap.size; simp <;> omega
        have BSZ2 : w2.heap.size ≤ (((w2.alloc (Obj.cells #[] 34)).alloc (Obj.cells #[.int .i64 x, .int .i64 y, .int .i64 z] 34)).drew).heap.size := by show w2.heap.size ≤ (World.alloc _ _).heap.size; simp <;> omega
        have BSZ3 : w2.heap.size ≤ (((w2.alloc (Obj.cells #[.int .i64 x, .int .i64 y, .int .i64 z] 34)).alloc (Obj.cells #[] 34)).drew).heap.size := by show w2.heap.size ≤ (World.alloc _ _).heap.size; simp <;> omega
        have LT2 : w2.heap.size + 1 < (((w2.alloc (Obj.cells #[] 34)).alloc (Obj.cells #[.int .i64 x, .int .i64 y, .int .i64 z] 34)).drew).heap.size := by show _ < (World.alloc _ _).heap.size; simp
        have LT3 : w2.heap.size < (((w2.alloc (Obj.cells #[.int .i64 x, .int .i64 y, .int .i64 z] 34)).alloc (Obj.cells #[] 34)).drew).heap.size := by show _ < (World.alloc _ _).heap.size; simp <;> omega
        have NEW2 : ∀ j u, [Value.int .i64 x, .int .i64 y, .int .i64 z][j]? = some u → (((w2.alloc (Obj.cells #[] 34)).alloc (Obj.cells #[.int .i64 x, .int .i64 y, .int .i64 z] 34)).drew).cell? ((⟨w2.heap.size + 1, 0, none⟩ : Addr).add j) = some u := fun j u h => by rw [addr_add]; exact (cell_new' _ _ _ _ _ (by simp)).trans (by simpa using h)
        have NEW3 : ∀ j u, [Value.int .i64 x, .int .i64 y, .int .i64 z][j]? = some u → (((w2.alloc (Obj.cells #[.int .i64 x, .int .i64 y, .int .i64 z] 34)).alloc (Obj.cells #[] 34)).drew).cell? ((⟨w2.heap.size, 0, none⟩ : Addr).add j) = some u := fun j u h => by rw [addr_add]; exact (World.cell?_alloc_past _ _ _ (by simp)).trans ((cell_new' _ _ _ _ _ rfl).trans (by simpa using h))
        go_region_held3 (fun wx => AddS w.heap.size n x y z (.slice (some ⟨g, o, none⟩) l.length c) wx) (first | (refine HT.out _ _ _ (HS.out _ ?_); exact hB4) | exact HS.out _ (by repeat first | exact hB4 | exact hB3 | exact Below.refl _ _ | refine Below.drew ?_ | refine Below.alloc ?_ (by have := hB3.size; simp; omega) _ | refine Below.alloc ?_ (by simp <;> omega) _)) (first
          | (refine step_append_own ((w2.alloc (Obj.cells #[] 34)).drew) rfl _ _ 28 rfl w2.heap.size 34 i0 (.agg #[.int .i64 0, .int .i64 0, .int .i64 0]) 3 24 Try.underlying28 HI.out HZ0.out HZ1.out HZ2.out rfl (by decide) (.slice (some ⟨w2.heap.size, 0, none⟩) 0 0) 0 [] rfl (own_empty w2 _ _) ⟨g, o, none⟩ l.length c (flat3 l) rfl (flat3_len _) (cl_news (HI2.out.below (by repeat first | exact hB4 | exact hB3 | exact Below.refl _ _ | refine Below.drew ?_ | refine Below.alloc ?_ (by have := hB3.size; simp; omega) _ | refine Below.alloc ?_ (by simp <;> omega) _))) (flat3_one _) (by unfold maxLen; omega) (by omega) (by show w2.heap.size ≤ ((w2.alloc (Obj.cells #[] 34)).drew).heap.size; exact BSZ1) ?_; intro v1 w3 o3 g3; have hB3 : Below w2.heap.size w2 w3 := Below.grown (by repeat first | exact hB4 | exact hB3 | exact Below.refl _ _ | refine Below.drew ?_ | refine Below.alloc ?_ (by have := hB3.size; simp; omega) _ | refine Below.alloc ?_ (by simp <;> omega) _) g3 (by show w2.heap.size ≤ ((w2.alloc (Obj.cells #[] 34)).drew).heap.size; exact BSZ1) (fun j hj => by (try simp [Value.ownBlock] at hj); omega); obtain ⟨p1, q1, r1, rfl⟩ := own_sliceC o3; have O3 := o3; have hz3 := hB3.size; clear o3 g3)
          | (refine step_append_own (((w2.alloc (Obj.cells #[] 34)).alloc (Obj.cells #[.int .i64 x, .int .i64 y, .int .i64 z] 34)).drew) rfl _ _ 28 rfl w2.heap.size 34 i0 (.agg #[.int .i64 0, .int .i64 0, .int .i64 0]) 3 24 Try.underlying28 HI.out HZ0.out HZ1.out HZ2.out rfl (by decide) (.slice (some ⟨w2.heap.size, 0, none⟩) 0 0) 0 [] rfl ((own_empty w2 _ _).alloc _) ⟨g, o, none⟩ l.length c (flat3 l) rfl (flat3_len _) (cl_news (HI2.out.below (by repeat first | exact hB4 | exact hB3 | exact Below.refl _ _ | refine Below.drew ?_ | refine Below.alloc ?_ (by have := hB3.size; simp; omega) _ | refine Below.alloc ?_ (by simp <;> omega) _))) (flat3_one _) (by unfold maxLen; omega) (by omega) (by show w2.heap.size ≤ (((w2.alloc (Obj.cells #[] 34)).alloc (Obj.cells #[.int .i64 x, .int .i64 y, .int .i64 z] 34)).drew).heap.size; exact BSZ2) ?_; intro v1 w3 o3 g3; have hB3 : Below w2.heap.size w2 w3 := Below.grown (by repeat first | exact hB4 | exact hB3 | exact Below.refl _ _ | refine Below.drew ?_ | refine Below.alloc ?_ (by have := hB3.size; simp; omega) _ | refine Below.alloc ?_ (by simp <;> omega) _) g3 (by show w2.heap.size ≤ (((w2.alloc (Obj.cells #[] 34)).alloc (Obj.cells #[.int .i64 x, .int .i64 y, .int .i64 z] 34)).drew).heap.size; exact BSZ2) (fun j hj => by (try simp [Value.ownBlock] at hj); omega); have cC := cells_kept g3 (b := w2.heap.size + 1) (fun e => absurd (show w2.heap.size + 1 = w2.heap.size from Option.some.inj e) (by omega)) (LT2) (NEW2); obtain ⟨p1, q1, r1, rfl⟩ := own_sliceC o3; have O3 := o3; have hz3 := hB3.size; clear o3 g3)
          | (refine step_append_own (((w2.alloc (Obj.cells #[.int .i64 x, .int .i64 y, .int .i64 z] 34)).alloc (Obj.cells #[] 34)).drew) rfl _ _ 28 rfl w2.heap.size 34 i0 (.agg #[.int .i64 0, .int .i64 0, .int .i64 0]) 3 24 Try.underlying28 HI.out HZ0.out HZ1.out HZ2.out rfl (by decide) (.slice (some ⟨w2.heap.size + 1, 0, none⟩) 0 0) 0 [] rfl (own_emptyP w2 _) ⟨g, o, none⟩ l.length c (flat3 l) rfl (flat3_len _) (cl_news (HI2.out.below (by repeat first | exact hB4 | exact hB3 | exact Below.refl _ _ | refine Below.drew ?_ | refine Below.alloc ?_ (by have := hB3.size; simp; omega) _ | refine Below.alloc ?_ (by simp <;> omega) _))) (flat3_one _) (by unfold maxLen; omega) (by omega) (by show w2.heap.size ≤ (((w2.alloc (Obj.cells #[.int .i64 x, .int .i64 y, .int .i64 z] 34)).alloc (Obj.cells #[] 34)).drew).heap.size; exact BSZ3) ?_; intro v1 w3 o3 g3; have hB3 : Below w2.heap.size w2 w3 := Below.grown (by repeat first | exact hB4 | exact hB3 | exact Below.refl _ _ | refine Below.drew ?_ | refine Below.alloc ?_ (by have := hB3.size; simp; omega) _ | refine Below.alloc ?_ (by simp <;> omega) _) g3 (by show w2.heap.size ≤ (((w2.alloc (Obj.cells #[.int .i64 x, .int .i64 y, .int .i64 z] 34)).alloc (Obj.cells #[] 34)).drew).heap.size; exact BSZ3) (fun j hj => by (try simp [Value.ownBlock] at hj); omega); have cC := cells_kept g3 (b := w2.heap.size) (fun e => absurd (show w2.heap.size = w2.heap.size + 1 from Option.some.inj e) (by omega)) (LT3) (NEW3); obtain ⟨p1, q1, r1, rfl⟩ := own_sliceC o3; have O3 := o3; have hz3 := hB3.size; clear o3 g3)
          | (refine step_append_own (w3.alloc (Obj.cells #[.int .i64 x, .int .i64 y, .int .i64 z] 34)) rfl _ _ 28 rfl w2.heap.size 34 i0 (.agg #[.int .i64 0, .int .i64 0, .int .i64 0]) 3 24 Try.underlying28 HI.out HZ0.out HZ1.out HZ2.out rfl (by decide) (.slice p1 q1 r1) (0 + l.length) ([] ++ flat3 l) rfl (O3.alloc _) ⟨w3.heap.size, 0, none⟩ 1 1 [.int .i64 x, .int .i64 y, .int .i64 z] rfl rfl (cell_three_new _ _ _ _ _) (three_one x y z) (by unfold maxLen; omega) (by omega) (by simp; omega) ?_; intro v2 w4 o4 g4; have hB4 : Below w2.heap.size w2 w4 := Below.grown (hB3.alloc hz3 _) g4 (by simp; omega) (fun j hj => (O3.lt _ hj).1); have x4 := H2.out.step hB4; have m0 := x4.r0; have m1 := x4.r1; have m2 := x4.fr 0; have m3 := x4.fr 1; obtain ⟨p2, q2, r2, rfl⟩ := own_sliceC o4)
          | (refine step_append_own w3 rfl _ _ 28 rfl w2.heap.size 34 i0 (.agg #[.int .i64 0, .int .i64 0, .int .i64 0]) 3 24 Try.underlying28 HI.out HZ0.out HZ1.out HZ2.out rfl (by decide) (.slice p1 q1 r1) (0 + l.length) ([] ++ flat3 l) rfl O3 ⟨w2.heap.size + 1, 0, none⟩ 1 1 [.int .i64 x, .int .i64 y, .int .i64 z] rfl rfl cC (three_one x y z) (by unfold maxLen; omega) (by omega) hz3 ?_; intro v2 w4 o4 g4; have hB4 : Below w2.heap.size w2 w4 := Below.grown hB3 g4 hz3 (fun j hj => (O3.lt _ hj).1); have x4 := H2.out.step hB4; have m0 := x4.r0; have m1 := x4.r1; have m2 := x4.fr 0; have m3 := x4.fr 1; obtain ⟨p2, q2, r2, rfl⟩ := own_sliceC o4)
          | (refine step_append_own w3 rfl _ _ 28 rfl w2.heap.size 34 i0 (.agg #[.int .i64 0, .int .i64 0, .int .i64 0]) 3 24 Try.underlying28 HI.out HZ0.out HZ1.out HZ2.out rfl (by decide) (.slice p1 q1 r1) (0 + l.length) ([] ++ flat3 l) rfl O3 ⟨w2.heap.size, 0, none⟩ 1 1 [.int .i64 x, .int .i64 y, .int .i64 z] rfl rfl cC (three_one x y z) (by unfold maxLen; omega) (by omega) hz3 ?_; intro v2 w4 o4 g4; have hB4 : Below w2.heap.size w2 w4 := Below.grown hB3 g4 hz3 (fun j hj => (O3.lt _ hj).1); have x4 := H2.out.step hB4; have m0 := x4.r0; have m1 := x4.r1; have m2 := x4.fr 0; have m3 := x4.fr 1; obtain ⟨p2, q2, r2, rfl⟩ := own_sliceC o4))
        all_goals
          have HE := Lib.hid (x4.ends (x := .int .i64 n) o4 H2.out.bel.size (own_newer o4 H2.out.lt))
          clear x4 m0 m1 m2 m3
          go_wp2_with fail
          refine bodyPost_ret (results_pzc rfl _ _ (w.heap.size + 1 + 1) (.int .i64 n) (.slice p2 q2 r2) rfl HE.out.1 HE.out.2.1) rfl ⟨_, rfl, ?_, HE.out.2.2.2⟩
          have e := HE.out.2.2.1
          rw [show (0 + l.length + 1) = (l ++ [(x, y, z)]).length by simp, show ([] ++ flat3 l ++ [Value.int .i64 x, .int .i64 y, .int .i64 z]) = flat3 (l ++ [(x, y, z)]) by rw [flat3_app]; rfl] at e
          exact e

set_option maxRecDepth 100000 in
set_option maxHeartbeats 2000000 in
theorem AddClue_any (n x y z : Int) (l : List Cl) (g o c : Nat) (w : World) (hin : ClIn w (some ⟨g, o, none⟩) l) (hl : l.length ≤ 2000000) (hc : l.length ≤ c) :
    Calls Try.prog 9 #[.agg #[.int .i64 n, .slice (some ⟨g, o, none⟩) l.length c], .agg #[.int .i64 x, .int .i64 y, .int .i64 z]] w (PzAns w (addOk n l x y z) n (l ++ [(x, y, z)])) := by
  have hX := BxP.start2 w n (.slice (some ⟨g, o, none⟩) l.length c) x y z
  have HCL := Lib.hid (cluesOf_any n l g o c _ (hin.below hX.1.bel) hl hc)
  have HX := Lib.hid hX
  have HIN := Lib.hid (hin.below hX.1.bel)
  clear hX hin
  obtain ⟨b, hb⟩ : ∃ b, addOk n l x y z = b := ⟨_, rfl⟩
  rw [hb]
  have HBq := Lib.hid hb
  clear hb
  unfold addOk at HBq
  cases hg : goodP n l
  · obtain rfl : false = b := by rw [← HBq.out, hg]; rfl
    rw [hg, show clOr false g o l.length = .tuple #[.slice none 0 0, .bool false] from rfl] at HCL
    clear hg
    go_enter Try.func9, Try.ntmps9
    go_wp2_with fail
    refine HCL.out.mono ?_
    rintro e w1 ⟨rfl, hb1⟩
    have h1 := HX.out.1.step hb1
    have r0 := h1.r0
    have r1 := h1.r1
    have f0 := h1.fr 0
    have f1 := h1.fr 1
    have HE := Lib.hid (h1.ends (x := .int .i64 0) (World.ownsRow_nil _ w.heap.size 34 3) (Nat.le_refl _) (by simp [Value.ownBlock]))
    clear h1 hb1
    go_wp2_with fail
    exact bodyPost_ret (results_pzc rfl _ _ (w.heap.size + 1 + 1) (.int .i64 0) (.slice none 0 0) rfl HE.out.1 HE.out.2.1) rfl ⟨_, rfl, HE.out.2.2.1, HE.out.2.2.2⟩
  · rw [hg, show clOr true g o l.length = .tuple #[.slice (some ⟨g, o, none⟩) l.length l.length, .bool true] from rfl] at HCL
    obtain ⟨h6, h15⟩ : l.length ≤ 6 ∧ (1 ≤ n ∧ n ≤ 5) := by
      unfold goodP inR at hg
      simp only [Bool.and_eq_true, decide_eq_true_eq] at hg
      exact ⟨hg.1.2, hg.1.1⟩
    rw [hg] at HBq
    clear hg
    by_cases hsix : l.length = 6
    · obtain rfl : false = b := by rw [← HBq.out, hsix]; simp
      have hs : ((l.length : Int) == 6) = true := by rw [hsix]; rfl
      clear hsix
      go_enter Try.func9, Try.ntmps9
      go_wp2_with fail
      refine HCL.out.mono ?_
      rintro e w1 ⟨rfl, hb1⟩
      have h1 := HX.out.1.step hb1
      have r0 := h1.r0
      have r1 := h1.r1
      have f0 := h1.fr 0
      have f1 := h1.fr 1
      have HE := Lib.hid (h1.ends (x := .int .i64 0) (World.ownsRow_nil _ w.heap.size 34 3) (Nat.le_refl _) (by simp [Value.ownBlock]))
      clear h1 hb1
      go_wp2_with fail
      exact bodyPost_ret (results_pzc rfl _ _ (w.heap.size + 1 + 1) (.int .i64 0) (.slice none 0 0) rfl HE.out.1 HE.out.2.1) rfl ⟨_, rfl, HE.out.2.2.1, HE.out.2.2.2⟩
    · have hs : ((l.length : Int) == 6) = false := by rw [beq_eq_false_iff_ne]; omega
      have hl5 : l.length ≤ 5 := by omega
      have hs2 : (l.length == 6) = false := by rw [beq_eq_false_iff_ne]; exact hsix
      rw [hs2] at HBq
      clear hsix hs2
      have hcc : clueC n x y z = clueOk n x y z := by unfold clueC inR; rw [decide_eq_true h15.1, decide_eq_true h15.2]; rfl
      have HK := Lib.hid (fun wx => IsClue_any n x y z wx)
      rw [hcc] at HK
      clear hcc
      cases hck : clueOk n x y z
      · obtain rfl : false = b := by rw [← HBq.out, hck]; rfl
        rw [hck] at HK
        clear hck
        go_enter Try.func9, Try.ntmps9
        go_wp2_with fail
        refine HCL.out.mono ?_
        rintro e w1 ⟨rfl, hb1⟩
        have h1 := HX.out.1.step hb1
        have k1 := HX.out.2.step hb1
        have c0 := h1.c0
        have d0 := k1.d0
        have d1 := k1.d1
        have d2 := k1.d2
        have H1 := Lib.hid h1
        clear h1 k1 hb1
        go_wp2_with fail
        refine (HK.out _).mono ?_
        rintro e w2 ⟨rfl, hb2⟩
        have h1 := H1.out.step hb2
        have r0 := h1.r0
        have r1 := h1.r1
        have f0 := h1.fr 0
        have f1 := h1.fr 1
        have HE := Lib.hid (h1.ends (x := .int .i64 0) (World.ownsRow_nil _ w.heap.size 34 3) (Nat.le_refl _) (by simp [Value.ownBlock]))
        clear h1 hb2
        go_wp2_with fail
        exact bodyPost_ret (results_pzc rfl _ _ (w.heap.size + 1 + 1) (.int .i64 0) (.slice none 0 0) rfl HE.out.1 HE.out.2.1) rfl ⟨_, rfl, HE.out.2.2.1, HE.out.2.2.2⟩
      · rw [hck] at HK HBq
        clear hck
        obtain rfl : true = b := by rw [← HBq.out]; rfl
        obtain ⟨i0, hi, hz0, hz1, hz2⟩ := info_parts Try.infoC
        have HI := Lib.hid hi
        have HZ0 := Lib.hid hz0
        have HZ1 := Lib.hid hz1
        have HZ2 := Lib.hid hz2
        clear hi hz0 hz1 hz2
        go_enter Try.func9, Try.ntmps9
        go_wp2_with fail
        refine HCL.out.mono ?_
        rintro e w1 ⟨rfl, hb1⟩
        have h1 := HX.out.1.step hb1
        have k1 := HX.out.2.step hb1
        have c0 := h1.c0
        have d0 := k1.d0
        have d1 := k1.d1
        have d2 := k1.d2
        have H1 := Lib.hid h1
        have K1 := Lib.hid k1
        have HI1 := Lib.hid (HIN.out.below hb1)
        clear h1 k1 hb1
        go_wp2_with fail
        refine (HK.out _).mono ?_
        rintro e w2 ⟨rfl, hb2⟩
        have h1 := H1.out.step hb2
        have c0 := h1.c0
        have c1 := h1.c1
        have H2 := Lib.hid h1
        have K2 := Lib.hid (K1.out.step hb2)
        have HI2 := Lib.hid (HI1.out.below hb2)
        clear h1 hb2 H1 K1 HI1 d0 d1 d2
        have hS : ∀ wx, Below w2.heap.size w2 wx → AddS w.heap.size n x y z (.slice (some ⟨g, o, none⟩) l.length c) wx := fun wx hb => ⟨(H2.out.step hb).c0, (H2.out.step hb).c1, (K2.out.step hb).d0, (K2.out.step hb).d1, (K2.out.step hb).d2⟩
        have hT : ∀ (wx : World) (u v : Value), AddS w.heap.size n x y z (.slice (some ⟨g, o, none⟩) l.length c) wx → AddS w.heap.size n x y z (.slice (some ⟨g, o, none⟩) l.length c) ((wx.setCell ⟨w.heap.size + 1 + 1, 0, none⟩ u).setCell ⟨w.heap.size + 1 + 1, 1, none⟩ v) := fun wx u v h => by
          unfold AddS at h ⊢
          simp only [World.cell?_setCell_other _ _ _ _ (show (⟨w.heap.size + 1 + 1, 1, none⟩ : Addr) ≠ ⟨w.heap.size, 0, none⟩ from fun e => by injection e with e; omega), World.cell?_setCell_other _ _ _ _ (show (⟨w.heap.size + 1 + 1, 0, none⟩ : Addr) ≠ ⟨w.heap.size, 0, none⟩ from fun e => by injection e with e; omega), World.cell?_setCell_other _ _ _ _ (show (⟨w.heap.size + 1 + 1, 1, none⟩ : Addr) ≠ ⟨w.heap.size, 1, none⟩ from fun e => by injection e with e; omega), World.cell?_setCell_other _ _ _ _ (show (⟨w.heap.size + 1 + 1, 0, none⟩ : Addr) ≠ ⟨w.heap.size, 1, none⟩ from fun e => by injection e with e; omega), World.cell?_setCell_other _ _ _ _ (show (⟨w.heap.size + 1 + 1, 1, none⟩ : Addr) ≠ ⟨w.heap.size + 1, 0, none⟩ from fun e => by injection e with e; omega), World.cell?_setCell_other _ _ _ _ (show (⟨w.heap.size + 1 + 1, 0, none⟩ : Addr) ≠ ⟨w.heap.size + 1, 0, none⟩ from fun e => by injection e with e; omega), World.cell?_setCell_other _ _ _ _ (show (⟨w.heap.size + 1 + 1, 1, none⟩ : Addr) ≠ ⟨w.heap.size + 1, 1, none⟩ from fun e => by injection e with e; omega), World.cell?_setCell_other _ _ _ _ (show (⟨w.heap.size + 1 + 1, 0, none⟩ : Addr) ≠ ⟨w.heap.size + 1, 1, none⟩ from fun e => by injection e with e; omega), World.cell?_setCell_other _ _ _ _ (show (⟨w.heap.size + 1 + 1, 1, none⟩ : Addr) ≠ ⟨w.heap.size + 1, 2, none⟩ from fun e => by injection e with e; omega), World.cell?_setCell_other _ _ _ _ (show (⟨w.heap.size + 1 + 1, 0, none⟩ : Addr) ≠ ⟨w.heap.size + 1, 2, none⟩ from fun e => by injection e with e; omega)]
          exact h
        have HS := Lib.hid hS
        have HT := Lib.hid hT
        clear hS hT
        go_wp2_with fail
        clear c0 c1
        have BS : w2.heap.size ≤ ((w2.alloc (Obj.cells #[.int .i64 x, .int .i64 y, .int .i64 z] 34)).drew).heap.size := by show w2.heap.size ≤ (World.alloc _ _).heap.size; simp
        have BL : w.heap.size + 1 + 1 < ((w2.alloc (Obj.cells #[.int .i64 x, .int .i64 y, .int .i64 z] 34)).drew).heap.size := Nat.lt_of_lt_of_le H2.out.lt BS
        go_region_held3 (fun wx => AddS w.heap.size n x y z (.slice (some ⟨g, o, none⟩) l.length c) wx) (first | (refine HT.out _ _ _ (HS.out _ ?_); exact hB4) | exact HS.out _ (by repeat first | exact hB4 | exact Below.refl _ _ | refine Below.drew ?_ | refine Below.alloc ?_ (by simp <;> omega) _)) (first
          | (refine step_append_grows (w := ((w2.alloc (Obj.cells #[.int .i64 x, .int .i64 y, .int .i64 z] 34)).drew)) rfl _ _ 28 rfl 34 i0 (.agg #[.int .i64 0, .int .i64 0, .int .i64 0]) 3 24 Try.underlying28 HI.out HZ0.out HZ1.out HZ2.out rfl (by decide) (some ⟨g, o, none⟩) l.length l.length (flat3 l) rfl (fun e => by cases e) (flat3_len _) (fun ad e => by injection e with e; subst e; exact cl_news (HI2.out.below (by repeat first | exact hB4 | exact Below.refl _ _ | refine Below.drew ?_ | refine Below.alloc ?_ (by simp <;> omega) _))) ⟨w2.heap.size, 0, none⟩ 1 1 [.int .i64 x, .int .i64 y, .int .i64 z] rfl rfl (cell_three_new w2 _ _ _ _) (three_one x y z) (by omega) (by unfold maxLen; omega) (by omega) ?_; intro v2 w4 o4 g4; have hB4 : Below w2.heap.size w2 w4 := Below.grown (by repeat first | exact hB4 | exact Below.refl _ _ | refine Below.drew ?_ | refine Below.alloc ?_ (by simp <;> omega) _) g4 BS (fun j hj => by cases hj); have x4 := H2.out.step hB4; have m0 := x4.r0; have m1 := x4.r1; have m2 := x4.fr 0; have m3 := x4.fr 1; obtain ⟨p2, q2, r2, rfl⟩ := own_sliceC o4))
        have HE := Lib.hid (x4.ends (x := .int .i64 n) o4 (Nat.le_trans H2.out.bel.size BS) (own_newer o4 BL))
        clear x4 m0 m1 m2 m3
        go_wp2_with fail
        refine bodyPost_ret (results_pzc rfl _ _ (w.heap.size + 1 + 1) (.int .i64 n) (.slice p2 q2 r2) rfl HE.out.1 HE.out.2.1) rfl ⟨_, rfl, ?_, HE.out.2.2.2⟩
        have e := HE.out.2.2.1
        rw [show (l.length + 1) = (l ++ [(x, y, z)]).length by simp, show (flat3 l ++ [Value.int .i64 x, .int .i64 y, .int .i64 z]) = flat3 (l ++ [(x, y, z)]) by rw [flat3_app]; rfl] at e
        exact e
end Go.Proofs.Ytjnidfleccbdbaa
