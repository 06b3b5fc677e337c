/- Contracts: a clue dropped: the model's and the program's. -/
import Derived.Test.YthhmaohnibdbnaaPzD
import Derived.Test.YthhmaohnibdbnaaPzCl
namespace Go.Proofs.Ythhmaohnibdbnaa
open Go.RowKit

/-- A puzzle or none. -/
def PzAns (w : World) (c : Bool) (n : Int) (l : List Cl) (e : Ending) (w' : World) : Prop :=
  ∃ v, e = .returned (.tuple #[.agg #[.int .i64 (if c then n else 0), v], .bool c]) ∧ w'.ownsRow w.heap.size 25 3 v (if c then l else []).length (flat3 (if c then l else [])) ∧ Below w.heap.size w w'
theorem results_pzc {fn : Func} {k j : Nat} (hr : fn.results = #[.cell k 35, .tmp j]) (tmps : Array Value) (w : World) (g : Nat) (x y : Value) (hp : tmps.getD k undef = .pointer (some ⟨g, 0, none⟩)) (c0 : w.cell? ⟨g, 0, none⟩ = some x) (c1 : w.cell? ⟨g, 1, none⟩ = some y) :
    (results fn tmps).run Try.prog w = .ok (.tuple #[.agg #[x, y], tmps.getD j undef]) w := by
  unfold results
  rw [hr]
  simp at hp
  simp [hp, asAddr, c0, c1, go_sem]
/-- A puzzle in its box, and a result's box. -/
structure BxP (w : World) (r : Nat) (n : Int) (v : Value) (wx : World) : Prop where
  bel : Below w.heap.size w wx
  old : w.heap.size ≤ r
  lt : r < wx.heap.size
  c0 : wx.cell? ⟨w.heap.size, 0, none⟩ = some (.int .i64 n)
  c1 : wx.cell? ⟨w.heap.size, 1, none⟩ = some v
  r0 : wx.cell? ⟨r, 0, none⟩ = some (.int .i64 0)
  r1 : wx.cell? ⟨r, 1, none⟩ = some (.slice none 0 0)
  fr : ∀ o, wx.frozen? ⟨r, o, none⟩ = false
theorem BxP.step {w wx wy : World} {r : Nat} {n : Int} {v : Value} (h : BxP w r n v wx) (hb : Below wx.heap.size wx wy) : BxP w r n v wy := by
  have z := lt_of_cell0 h.c0
  exact ⟨h.bel.trans (hb.mono h.bel.size), h.old, Nat.lt_of_lt_of_le h.lt hb.size, by rw [(bcell hb).1 _ _ z]; exact h.c0, by rw [(bcell hb).1 _ _ z]; exact h.c1, by rw [(bcell hb).1 _ _ h.lt]; exact h.r0, by rw [(bcell hb).1 _ _ h.lt]; exact h.r1, fun o => by rw [(bcell hb).2 _ _ h.lt]; exact h.fr o⟩
theorem BxP.drew {w wx : World} {r : Nat} {n : Int} {v : Value} (h : BxP w r n v wx) : BxP w r n v wx.drew := ⟨Below.drew h.bel, h.old, h.lt, h.c0, h.c1, h.r0, h.r1, h.fr⟩
theorem BxP.start (w : World) (n : Int) (v : Value) : BxP w (w.heap.size + 1) n v ((w.alloc (Obj.cells #[.int .i64 n, v] 35)).alloc (Obj.cells #[.int .i64 0, .slice none 0 0] 35)) := by
  refine ⟨((Below.refl _ _).alloc (Nat.le_refl _) _).alloc (by simp) _, by omega, by simp, ?_, ?_, ?_, ?_, ?_⟩
  · rw [World.cell?_alloc_past _ _ _ (by simp), cell_new' _ _ _ _ _ rfl]; rfl
  · rw [World.cell?_alloc_past _ _ _ (by simp), cell_new' _ _ _ _ _ rfl]; rfl
  · rw [cell_new' _ _ _ _ _ (by simp)]; rfl
  · rw [cell_new' _ _ _ _ _ (by simp)]; rfl
  · intro o; exact frozen_new' _ _ _ _ _ (by simp)
theorem BxP.ends {w wx : World} {r : Nat} {n : Int} {v u x : Value} {b m : Nat} {xs : List Value} (h : BxP w r n v wx) (ho : wx.ownsRow b 25 3 u m xs) (hb : w.heap.size ≤ b) (hne : u.ownBlock ≠ some r) :
    ((wx.setCell ⟨r, 0, none⟩ x).setCell ⟨r, 1, none⟩ u).cell? ⟨r, 0, none⟩ = some x ∧ ((wx.setCell ⟨r, 0, none⟩ x).setCell ⟨r, 1, none⟩ u).cell? ⟨r, 1, none⟩ = some u ∧ ((wx.setCell ⟨r, 0, none⟩ x).setCell ⟨r, 1, none⟩ u).ownsRow w.heap.size 25 3 u m xs ∧ Below w.heap.size w ((wx.setCell ⟨r, 0, none⟩ x).setCell ⟨r, 1, none⟩ u) := by
  refine ⟨?_, ?_, own_setC (own_setC (own_lowerC ho hb) _ _ _ hne) _ _ _ hne, (h.bel.setCell h.old _).setCell h.old _⟩
  · rw [World.cell?_setCell_other _ _ _ _ (by intro e; injection e with _ e; omega)]
    exact World.cell?_setCell_same _ _ _ h.r0
  · exact World.cell?_setCell_same _ _ _ (by rw [World.cell?_setCell_other _ _ _ _ (by intro e; injection e with _ e; omega)]; exact h.r1)
theorem own_newer {w : World} {b r : Nat} {e : TypeId} {size n : Nat} {v : Value} {xs : List Value} (h : w.ownsRow b e size v n xs) (hr : r < b) : v.ownBlock ≠ some r := fun e1 => by
  have := (h.lt r e1).1
  omega

set_option maxRecDepth 100000 in
set_option maxHeartbeats 2000000 in
theorem DropClue_any (n k : Int) (l : List Cl) (g o c : Nat) (w : World) (hin : ClIn w (some ⟨g, o, none⟩) l) (hl : l.length ≤ 2000000) (hc : l.length ≤ c) :
    Calls Try.prog 20 #[.agg #[.int .i64 n, .slice (some ⟨g, o, none⟩) l.length c], .int .i64 k] w (PzAns w (goodP n l && inR k 0 (l.length - 1)) n (woC l k.toNat)) := by
  have hX := BxP.start w n (.slice (some ⟨g, o, none⟩) l.length c)
  have HCL := Lib.hid (cluesOf_any n l g o c _ (hin.below hX.bel) hl hc)
  have HX := Lib.hid hX
  have HIN := Lib.hid (hin.below hX.bel)
  clear hX hin
  obtain ⟨b, hb⟩ : ∃ b, (goodP n l && inR k 0 (l.length - 1)) = b := ⟨_, rfl⟩
  rw [hb]
  have HBq := Lib.hid hb
  clear hb
  cases hg : goodP n l
  · obtain rfl : false = b := by rw [← HBq.out, hg]; rfl
    rw [hg, show clOr false g o l.length = .tuple #[.slice none 0 0, .bool false] from rfl] at HCL
    clear hg
    go_enter Try.func20, Try.ntmps20
    go_wp2_with fail
    refine HCL.out.mono ?_
    rintro e w1 ⟨rfl, hb1⟩
    have h1 := HX.out.step hb1
    have r0 := h1.r0
    have r1 := h1.r1
    have f0 := h1.fr 0
    have f1 := h1.fr 1
    have HE := Lib.hid (h1.ends (x := .int .i64 0) (World.ownsRow_nil _ w.heap.size 25 3) (Nat.le_refl _) (by simp [Value.ownBlock]))
    clear h1 hb1
    go_wp2_with fail
    exact bodyPost_ret (results_pzc rfl _ _ (w.heap.size + 1) (.int .i64 0) (.slice none 0 0) rfl HE.out.1 HE.out.2.1) rfl ⟨_, rfl, HE.out.2.2.1, HE.out.2.2.2⟩
  · rw [hg, show clOr true g o l.length = .tuple #[.slice (some ⟨g, o, none⟩) l.length l.length, .bool true] from rfl] at HCL
    have h6 : l.length ≤ 6 := by
      unfold goodP at hg
      simp only [Bool.and_eq_true, decide_eq_true_eq] at hg
      exact hg.1.2
    by_cases hk : 0 ≤ k ∧ k < l.length
    · obtain rfl : true = b := by rw [← HBq.out, hg]; simp [inR]; omega
      obtain ⟨j, rfl⟩ : ∃ j : Nat, k = j := ⟨k.toNat, by omega⟩
      have hj : j < l.length := by omega
      have HW := Lib.hid (fun wx (h : ClIn wx (some ⟨g, o, none⟩) l) => withoutClue_any l g o l.length j wx h (by omega) (Nat.le_refl _) (by omega) hj)
      rw [Int.toNat_natCast]
      generalize woC l j = L at HW ⊢
      have i1 : (0 : Int) ≤ (j : Int) := by omega
      have i2 : (j : Int) < (l.length : Int) := by omega
      clear hg hk
      go_enter Try.func20, Try.ntmps20
      go_wp2_with fail
      refine HCL.out.mono ?_
      rintro e w1 ⟨rfl, hb1⟩
      have HX1 := Lib.hid (HX.out.step hb1)
      have HI1 := Lib.hid (HIN.out.below hb1)
      have X1 := HX1.out
      have c0 := X1.c0
      have r0 := X1.r0
      have r1 := X1.r1
      have f0 := X1.fr 0
      have f1 := X1.fr 1
      clear HX HIN hb1 HCL X1
      go_wp2_with fail
      go_region_held3 (fun w' => w'.cell? ⟨w.heap.size, 0, none⟩ = some (.int .i64 n)) (first | exact c0 | exact x2.c0 | (rw [World.cell?_setCell_other _ _ _ _ (by intro e; injection e with e; omega), World.cell?_setCell_other _ _ _ _ (by intro e; injection e with e; omega)]; exact x2.c0)) (first | (go_at_call 41; refine (HW.out _ (clin_drew HI1.out)).mono ?_; rintro e w2 ⟨v, rfl, o2, hb2⟩; have x2 := (BxP.drew HX1.out).step hb2; have q0 := x2.r0; have q1 := x2.r1; have q2 := x2.fr 0; have q3 := x2.fr 1; obtain ⟨vp, va, vc, rfl⟩ := own_sliceC o2))
      have HE := Lib.hid (x2.ends (x := .int .i64 n) o2 (by show w.heap.size ≤ w1.heap.size; exact HX1.out.bel.size) (own_newer o2 (show w.heap.size + 1 < w1.heap.size from HX1.out.lt)))
      clear x2 o2 q0 q1 q2 q3
      go_wp2_with fail
      exact bodyPost_ret (results_pzc rfl _ _ (w.heap.size + 1) (.int .i64 n) (.slice vp va vc) rfl HE.out.1 HE.out.2.1) rfl ⟨_, rfl, HE.out.2.2.1, HE.out.2.2.2⟩
    · obtain rfl : false = b := by rw [← HBq.out, hg]; simp [inR]; omega
      clear hg
      go_enter Try.func20, Try.ntmps20
      go_wp2_with fail
      refine HCL.out.mono ?_
      rintro e w1 ⟨rfl, hb1⟩
      have h1 := HX.out.step hb1
      have r0 := h1.r0
      have r1 := h1.r1
      have f0 := h1.fr 0
      have f1 := h1.fr 1
      have HE := Lib.hid (h1.ends (x := .int .i64 0) (World.ownsRow_nil _ w.heap.size 25 3) (Nat.le_refl _) (by simp [Value.ownBlock]))
      clear h1 hb1
      by_cases hneg : k < 0
      · go_wp2_with fail
        exact bodyPost_ret (results_pzc rfl _ _ (w.heap.size + 1) (.int .i64 0) (.slice none 0 0) rfl HE.out.1 HE.out.2.1) rfl ⟨_, rfl, HE.out.2.2.1, HE.out.2.2.2⟩
      · have hge : (l.length : Int) ≤ k := by omega
        clear hk
        go_wp2_with fail
        exact bodyPost_ret (results_pzc rfl _ _ (w.heap.size + 1) (.int .i64 0) (.slice none 0 0) rfl HE.out.1 HE.out.2.1) rfl ⟨_, rfl, HE.out.2.2.1, HE.out.2.2.2⟩

set_option maxRecDepth 100000 in
set_option maxHeartbeats 2000000 in
theorem sDropClue_any (n k : Int) (l : List Cl) (g o c : Nat) (w : World) (hin : ClIn w (some ⟨g, o, none⟩) l) (hl : l.length ≤ 2000000) (hc : l.length ≤ c) (hc2 : c ≤ l.length) :
    Calls Try.prog 19 #[.agg #[.int .i64 n, .slice (some ⟨g, o, none⟩) l.length c], .int .i64 k] w (PzAns w (goodP n l && inR k 0 (l.length - 1)) n (woC l k.toNat)) := by
  have hX := BxP.start w n (.slice (some ⟨g, o, none⟩) l.length c)
  have HCL := Lib.hid (pzGood_any n l (some ⟨g, o, none⟩) c _ (hin.below hX.bel) hl)
  have HX := Lib.hid hX
  have HIN := Lib.hid (hin.below hX.bel)
  clear hX hin
  obtain ⟨b, hb⟩ : ∃ b, (goodP n l && inR k 0 (l.length - 1)) = b := ⟨_, rfl⟩
  rw [hb]
  have HBq := Lib.hid hb
  clear hb
  have e1 : IntKind.i64.wrap ((l.length : Int) - 1) = (l.length : Int) - 1 := by rw [IntKind.wrap_i64]; omega
  cases hg : goodP n l
  · obtain rfl : false = b := by rw [← HBq.out, hg]; rfl
    rw [hg] at HCL
    clear hg
    go_enter Try.func19, Try.ntmps19
    go_wp2_with fail
    refine HCL.out.mono ?_
    rintro e w1 ⟨rfl, hb1⟩
    have h1 := HX.out.step hb1
    have r0 := h1.r0
    have r1 := h1.r1
    have f0 := h1.fr 0
    have f1 := h1.fr 1
    have HE := Lib.hid (h1.ends (x := .int .i64 0) (World.ownsRow_nil _ w.heap.size 25 3) (Nat.le_refl _) (by simp [Value.ownBlock]))
    clear h1 hb1
    go_wp2_with fail
    exact bodyPost_ret (results_pzc rfl _ _ (w.heap.size + 1) (.int .i64 0) (.slice none 0 0) rfl HE.out.1 HE.out.2.1) rfl ⟨_, rfl, HE.out.2.2.1, HE.out.2.2.2⟩
  · rw [hg] at HCL
    have h6 : l.length ≤ 6 := by
      unfold goodP at hg
      simp only [Bool.and_eq_true, decide_eq_true_eq] at hg
      exact hg.1.2
    by_cases hk : 0 ≤ k ∧ k < l.length
    · obtain rfl : true = b := by rw [← HBq.out, hg]; simp [inR]; omega
      have hkk : inR k 0 ((l.length : Int) - 1) = true := by simp [inR]; omega
      obtain ⟨j, rfl⟩ : ∃ j : Nat, k = j := ⟨k.toNat, by omega⟩
      have hj : j < l.length := by omega
      have HW := Lib.hid (fun wx (h : ClIn wx (some ⟨g, o, none⟩) l) => pzWithout_any l g o c j wx h (by omega) hc (by omega) hj)
      rw [Int.toNat_natCast]
      generalize woC l j = L at HW ⊢
      have HK := Lib.hid hkk
      clear hg hk hkk
      go_enter Try.func19, Try.ntmps19
      go_wp2_with fail
      refine HCL.out.mono ?_
      rintro e w1 ⟨rfl, hb1⟩
      have HX1 := Lib.hid (HX.out.step hb1)
      have HI1 := Lib.hid (HIN.out.below hb1)
      have X1 := HX1.out
      have c0 := X1.c0
      have c1 := X1.c1
      have r0 := X1.r0
      have r1 := X1.r1
      have f0 := X1.fr 0
      have f1 := X1.fr 1
      clear HX HIN hb1 HCL X1
      go_wp2_with fail
      refine (l1In_any _ _ _ _).mono ?_; rintro e w' ⟨rfl, rfl⟩; rw [HK.out]
      go_wp2_with fail
      go_region_held3 (fun w' => w'.cell? ⟨w.heap.size, 0, none⟩ = some (.int .i64 n) ∧ w'.cell? ⟨w.heap.size, 1, none⟩ = some (.slice (some ⟨g, o, none⟩) l.length c)) (first | exact ⟨c0, c1⟩ | exact ⟨x2.c0, x2.c1⟩ | (rw [World.cell?_setCell_other _ _ _ _ (by intro e; injection e with e; omega), World.cell?_setCell_other _ _ _ _ (by intro e; injection e with e; omega), World.cell?_setCell_other _ _ _ _ (by intro e; injection e with e; omega), World.cell?_setCell_other _ _ _ _ (by intro e; injection e with e; omega)]; exact ⟨x2.c0, x2.c1⟩)) (first | (go_at_call 40; refine (HW.out _ (clin_drew HI1.out)).mono ?_; rintro e w2 ⟨v, rfl, o2, hb2⟩; have x2 := (BxP.drew HX1.out).step hb2; have q0 := x2.r0; have q1 := x2.r1; have q2 := x2.fr 0; have q3 := x2.fr 1; obtain ⟨vp, va, vc, rfl⟩ := own_sliceC o2))
      have HE := Lib.hid (x2.ends (x := .int .i64 n) o2 (by show w.heap.size ≤ w1.heap.size; exact HX1.out.bel.size) (own_newer o2 (show w.heap.size + 1 < w1.heap.size from HX1.out.lt)))
      clear x2 o2 q0 q1 q2 q3
      go_wp2_with fail
      exact bodyPost_ret (results_pzc rfl _ _ (w.heap.size + 1) (.int .i64 n) (.slice vp va vc) rfl HE.out.1 HE.out.2.1) rfl ⟨_, rfl, HE.out.2.2.1, HE.out.2.2.2⟩
    · obtain rfl : false = b := by rw [← HBq.out, hg]; simp [inR]; omega
      have hkk : inR k 0 ((l.length : Int) - 1) = false := by simp [inR]; omega
      have HK := Lib.hid hkk
      clear hg hkk
      go_enter Try.func19, Try.ntmps19
      go_wp2_with fail
      refine HCL.out.mono ?_
      rintro e w1 ⟨rfl, hb1⟩
      have h1 := HX.out.step hb1
      have c1 := h1.c1
      have r0 := h1.r0
      have r1 := h1.r1
      have f0 := h1.fr 0
      have f1 := h1.fr 1
      have HE := Lib.hid (h1.ends (x := .int .i64 0) (World.ownsRow_nil _ w.heap.size 25 3) (Nat.le_refl _) (by simp [Value.ownBlock]))
      clear h1 hb1
      go_wp2_with fail
      refine (l1In_any _ _ _ _).mono ?_; rintro e w' ⟨rfl, rfl⟩; rw [HK.out]
      go_wp2_with fail
      exact bodyPost_ret (results_pzc rfl _ _ (w.heap.size + 1) (.int .i64 0) (.slice none 0 0) rfl HE.out.1 HE.out.2.1) rfl ⟨_, rfl, HE.out.2.2.1, HE.out.2.2.2⟩
end Go.Proofs.Ythhmaohnibdbnaa
