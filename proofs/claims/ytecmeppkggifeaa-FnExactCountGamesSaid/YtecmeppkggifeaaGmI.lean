/- Contracts: the program tells of all games of a turn and of a line. -/
import Derived.Test.YtecmeppkggifeaaGmH
import Derived.Test.YtecmeppkggifeaaGmX
namespace Go.Proofs.Ytecmeppkggifeaa
open Go.RowKit Go.Maps Go.Shelf

theorem results_kg (tmps : Array Value) (w : World) (g : Nat) (x y z : Value) (hp : tmps.getD 5 undef = .pointer (some ⟨g, 0, none⟩)) (c0 : w.cell? ⟨g, 0, none⟩ = some x) (c1 : w.cell? ⟨g, 1, none⟩ = some y) (c2 : w.cell? ⟨g, 2, none⟩ = some z) :
    (results Try.f122 tmps).run Try.prog w = .ok (.agg #[x, y, z]) w := by
  have hr : Try.f122.results = #[.cell 5 89] := rfl
  unfold results
  rw [hr]
  simp at hp
  simp [hp, asAddr, c0, c1, c2, go_sem]
theorem telG_back {L : Nat} {D : DataW Unit} {tm : Bool} {s : List UInt8} {a b c : Int} (hD : ToldGD L D) (hs : sigT L s) (hk : Maps.has D (.string (kbT tm s)) = true) (h : D.atKey (.string (kbT tm s)) (gD 0 0 0) = gD a b c) : a = ((Gm tm s).1 : Int) ∧ b = ((Gm tm s).2.1 : Int) ∧ c = (Gm tm s).2.2 := by
  have := (hD.1 tm s hs hk).2 (gD 0 0 0)
  rw [h] at this
  exact gD_inj this

set_option maxRecDepth 100000 in
set_option maxHeartbeats 4000000 in
theorem telG_any (L B Bt Br Bs : Nat) (hL : L ≤ 12) : ∀ (N : Nat) (tm : Bool) (s : List UInt8) (W : World), muG 0 s = N → sigT L s → TelG W L B Bt Br Bs →
    Calls Try.prog 122 #[tnV tm s, .pointer (some ⟨Bt, 0, none⟩), .pointer (some ⟨Br, 0, none⟩), .pointer (some ⟨Bs, 0, none⟩)] W (TelGP L B Bt Br Bs tm s W) := by
  intro N
  induction N using Nat.strongRecOn with
  | ind N IH =>
  intro tm s W hmu hs hI
  have hl100 : s.length ≤ 100 := by have := hs.1; omega
  have hN : TelNext L B Bt Br Bs tm s := fun x hx W' hI' => IH (muG 0 x) (by rw [← hmu]; exact (mu_less hl100 hx).1) (!tm) x W' rfl (sigT_next hs hx) hI'
  have HRULE := Lib.hid (fun wx h => gamesFrom_any L B Bt Br Bs tm s wx hL hs hN h)
  have HMAP := Lib.hid (fun wx (h : TelG wx L B Bt Br Bs) => telG_map (tm := tm) hL hs h)
  clear IH hN
  obtain ⟨W1, hW1⟩ : ∃ W1, W1 = (W.alloc (tnB tm s)).alloc (.cells #[.int .i64 0, .int .i64 0, .int .i64 0] 89) := ⟨_, rfl⟩
  have hB1 : Below W.heap.size W W1 := by rw [hW1]; exact ((Below.refl _ _).alloc (Nat.le_refl _) _).alloc (by simp) _
  have HI0 := Lib.hid hI
  have hI1 := hI.below hB1
  have hBl := hI.map.lt
  have hlts := hI.box.lt
  have hz : W1.heap.size = W.heap.size + 2 := by rw [hW1]; simp
  have e1 : (W.alloc (tnB tm s)).heap.size = W.heap.size + 1 := by simp
  have x0 : W1.cell? ⟨W.heap.size, 0, none⟩ = some (.string (str s)) := by rw [hW1, cell_old _ _ _ _ (by omega), World.cell?_alloc_new]; rfl
  have x1 : W1.cell? ⟨W.heap.size, 1, none⟩ = some (.int .u8 (kd tm).toNat) := by rw [hW1, cell_old _ _ _ _ (by omega), World.cell?_alloc_new]; rfl
  have x5 : W1.heap[W.heap.size + 1]? = some (.cells #[.int .i64 0, .int .i64 0, .int .i64 0] 89 (0, 0)) := by rw [hW1, ← e1]; exact heap_alloc_new _ _
  have hm : s.length ≤ maxLen := by unfold maxLen; omega
  obtain ⟨D, hown, hD⟩ := hI1.map
  obtain ⟨v, ps, hrun, hv⟩ := hown.look_ok Try.keysT Try.underlying133 (zeroG W1) (gmsR_mk 0 0 0) (keyT tm hm)
  obtain ⟨a, b, c, rfl, hb⟩ := gmsR_inv hv
  injection hb with hb _
  have hback := fun hk => telG_back hD hs hk hb
  have HI1 := Lib.hid hI1
  have HB1 := Lib.hid hB1
  have c0 := hI1.box.told
  clear hI hs hown hv hB1 hI1 hD
  obtain ⟨W2, hW2⟩ : ∃ W2, W2 = W1.alloc (.cells #[.int .i64 a, .int .i64 b, .int .i64 c] 89) := ⟨_, rfl⟩
  have hB2 : Below W1.heap.size W1 W2 := by rw [hW2]; exact (Below.refl _ _).alloc (Nat.le_refl _) _
  have hz2 : W2.heap.size = W1.heap.size + 1 := by rw [hW2]; simp
  have t6 : W2.heap[W1.heap.size]? = some (.cells #[.int .i64 a, .int .i64 b, .int .i64 c] 89 (0, 0)) := by rw [hW2]; exact heap_alloc_new _ _
  have t5 : W2.heap[W.heap.size + 1]? = some (.cells #[.int .i64 0, .int .i64 0, .int .i64 0] 89 (0, 0)) := (hB2.block _ (by omega)).trans x5
  have t40 : W2.cell? ⟨W.heap.size, 0, none⟩ = some (.string (str s)) := (hB2.cell (p := ⟨W.heap.size, 0, none⟩) (by show W.heap.size < _; omega)).trans x0
  have t41 : W2.cell? ⟨W.heap.size, 1, none⟩ = some (.int .u8 (kd tm).toNat) := (hB2.cell (p := ⟨W.heap.size, 1, none⟩) (by show W.heap.size < _; omega)).trans x1
  have HI2 := Lib.hid (HI1.out.below hB2)
  have HB2 := Lib.hid (HB1.out.trans (hB2.mono (by omega)))
  have d0 := HI2.out.box.told
  have d1 := HI2.out.box.rule
  have d2 := HI2.out.box.tell
  clear hB2 x5
  cases hk : Maps.has D (.string (kbT tm s))
  · rw [hk] at hrun
    clear hk hback hb
    have q60 : W2.cell? ⟨W1.heap.size, 0, none⟩ = some (.int .i64 a) := by simp [World.cell?, t6]
    have q61 : W2.cell? ⟨W1.heap.size, 1, none⟩ = some (.int .i64 b) := by simp [World.cell?, t6]
    have q62 : W2.cell? ⟨W1.heap.size, 2, none⟩ = some (.int .i64 c) := by simp [World.cell?, t6]
    rw [hz] at q60 q61 q62 t6
    have hz2' : W2.heap.size = W.heap.size + 3 := by omega
    subst hW2
    subst hW1
    have HT := Lib.hid (And.intro t5 t6)
    clear t5 t6 q60 q61 q62
    go_enter Try.func122, Try.ntmps122
    go_wp2_with fail
    refine (HRULE.out _ HI2.out).mono ?_
    rintro e w5 ⟨rfl, hI5, hK5⟩
    have hz5 := hK5.size
    have y0 := (hK5.cell (b := W.heap.size) (o := 0) (by omega) (by omega)).trans t40
    have y1 := (hK5.cell (b := W.heap.size) (o := 1) (by omega) (by omega)).trans t41
    have t6 : w5.heap[W.heap.size + 2]? = some (.cells #[.int .i64 a, .int .i64 b, .int .i64 c] 89 (0, 0)) := (hK5.far.2 _ (fun e => by injection e with e; omega) (by omega)).trans HT.out.2
    have t5 : w5.heap[W.heap.size + 1]? = some (.cells #[.int .i64 0, .int .i64 0, .int .i64 0] 89 (0, 0)) := (hK5.far.2 _ (fun e => by injection e with e; omega) (by omega)).trans HT.out.1
    have q60 : w5.cell? ⟨W.heap.size + 2, 0, none⟩ = some (.int .i64 a) := by simp [World.cell?, t6]
    have q61 : w5.cell? ⟨W.heap.size + 2, 1, none⟩ = some (.int .i64 b) := by simp [World.cell?, t6]
    have q62 : w5.cell? ⟨W.heap.size + 2, 2, none⟩ = some (.int .i64 c) := by simp [World.cell?, t6]
    have z60 : w5.frozen? ⟨W.heap.size + 2, 0, none⟩ = false := by simp [World.frozen?, t6]
    have z61 : w5.frozen? ⟨W.heap.size + 2, 1, none⟩ = false := by simp [World.frozen?, t6]
    have z62 : w5.frozen? ⟨W.heap.size + 2, 2, none⟩ = false := by simp [World.frozen?, t6]
    have hI6 := ((hI5.off (C := W.heap.size + 2) (by omega) (by omega) (by omega) (by omega) 0 (.int .i64 ((Gm tm s).1 : Int))).off (C := W.heap.size + 2) (by omega) (by omega) (by omega) (by omega) 1 (.int .i64 ((Gm tm s).2.1 : Int))).off (C := W.heap.size + 2) (by omega) (by omega) (by omega) (by omega) 2 (.int .i64 (Gm tm s).2.2)
    obtain ⟨m0, m1, m2⟩ := three_set (.int .i64 ((Gm tm s).1 : Int)) (.int .i64 ((Gm tm s).2.1 : Int)) (.int .i64 (Gm tm s).2.2) q60 q61 q62
    obtain ⟨w7, hrun7, hI7, hK7⟩ := HMAP.out _ hI6
    have e0 := hI6.box.told
    have e0' := hI5.box.told
    have hz7 := hK7.size
    simp at hz7
    have hh : ∀ k, k ≠ W.heap.size + 2 → (((w5.setCell ⟨W.heap.size + 2, 0, none⟩ (.int .i64 ((Gm tm s).1 : Int))).setCell ⟨W.heap.size + 2, 1, none⟩ (.int .i64 ((Gm tm s).2.1 : Int))).setCell ⟨W.heap.size + 2, 2, none⟩ (.int .i64 (Gm tm s).2.2)).heap[k]? = w5.heap[k]? := fun k hk => by
      rw [Below.heap_setCell _ _ _ _ hk, Below.heap_setCell _ _ _ _ hk, Below.heap_setCell _ _ _ _ hk]
    have g6 := fun o => hK7.cell (b := W.heap.size + 2) (o := o) (by simp; omega) (by omega)
    have t57 : w7.heap[W.heap.size + 1]? = some (.cells #[.int .i64 0, .int .i64 0, .int .i64 0] 89 (0, 0)) := ((hK7.far.2 _ (fun e => by injection e with e; omega) (by simp; omega)).trans (hh _ (by omega))).trans t5
    have n60 := (g6 0).trans m0
    have n61 := (g6 1).trans m1
    have n62 := (g6 2).trans m2
    have f50 : w7.cell? ⟨W.heap.size + 1, 0, none⟩ = some (.int .i64 0) := by simp [World.cell?, t57]
    have f51 : w7.cell? ⟨W.heap.size + 1, 1, none⟩ = some (.int .i64 0) := by simp [World.cell?, t57]
    have f52 : w7.cell? ⟨W.heap.size + 1, 2, none⟩ = some (.int .i64 0) := by simp [World.cell?, t57]
    have z50 : w7.frozen? ⟨W.heap.size + 1, 0, none⟩ = false := by simp [World.frozen?, t57]
    have z51 : w7.frozen? ⟨W.heap.size + 1, 1, none⟩ = false := by simp [World.frozen?, t57]
    have z52 : w7.frozen? ⟨W.heap.size + 1, 2, none⟩ = false := by simp [World.frozen?, t57]
    obtain ⟨l0, l1, l2⟩ := three_set (.int .i64 ((Gm tm s).1 : Int)) (.int .i64 ((Gm tm s).2.1 : Int)) (.int .i64 (Gm tm s).2.2) f50 f51 f52
    have HL0 := Lib.hid (And.intro l0 (And.intro l1 l2))
    have HI7 := Lib.hid (((hI7.off (C := W.heap.size + 1) (by omega) (by omega) (by omega) (by omega) 0 (.int .i64 ((Gm tm s).1 : Int))).off (C := W.heap.size + 1) (by omega) (by omega) (by omega) (by omega) 1 (.int .i64 ((Gm tm s).2.1 : Int))).off (C := W.heap.size + 1) (by omega) (by omega) (by omega) (by omega) 2 (.int .i64 (Gm tm s).2.2))
    have HK7 := Lib.hid ((((((((KpM.below HB2.out).trans hK5).setNew (C := W.heap.size + 2) (o := 0) (u := .int .i64 ((Gm tm s).1 : Int)) (by omega)).setNew (C := W.heap.size + 2) (o := 1) (u := .int .i64 ((Gm tm s).2.1 : Int)) (by omega)).setNew (C := W.heap.size + 2) (o := 2) (u := .int .i64 (Gm tm s).2.2) (by omega)).trans hK7).setNew (C := W.heap.size + 1) (o := 0) (u := .int .i64 ((Gm tm s).1 : Int)) (by omega)).setNew (C := W.heap.size + 1) (o := 1) (u := .int .i64 ((Gm tm s).2.1 : Int)) (by omega))
    clear hI5 hK5 hI6 hI7 hK7 hrun hh g6 t5 t6 t57 l0 l1 l2
    go_wp2
    (try simp only [Exit.inBlock, Exit.then]); refine bodyPost_ret (results_kg _ _ (W.heap.size + 1) (.int .i64 ((Gm tm s).1 : Int)) (.int .i64 ((Gm tm s).2.1 : Int)) (.int .i64 (Gm tm s).2.2) rfl HL0.out.1 HL0.out.2.1 HL0.out.2.2) rfl ⟨rfl, HI7.out, HK7.out.setNew (by omega)⟩
  · rw [hk] at hrun
    obtain ⟨rfl, rfl, rfl⟩ := hback hk
    clear hk hb hback
    have q60 : W2.cell? ⟨W1.heap.size, 0, none⟩ = some (.int .i64 ((Gm tm s).1 : Int)) := by simp [World.cell?, t6]
    have q61 : W2.cell? ⟨W1.heap.size, 1, none⟩ = some (.int .i64 ((Gm tm s).2.1 : Int)) := by simp [World.cell?, t6]
    have q62 : W2.cell? ⟨W1.heap.size, 2, none⟩ = some (.int .i64 (Gm tm s).2.2) := by simp [World.cell?, t6]
    have f50 : W2.cell? ⟨W.heap.size + 1, 0, none⟩ = some (.int .i64 0) := by simp [World.cell?, t5]
    have f51 : W2.cell? ⟨W.heap.size + 1, 1, none⟩ = some (.int .i64 0) := by simp [World.cell?, t5]
    have f52 : W2.cell? ⟨W.heap.size + 1, 2, none⟩ = some (.int .i64 0) := by simp [World.cell?, t5]
    have z50 : W2.frozen? ⟨W.heap.size + 1, 0, none⟩ = false := by simp [World.frozen?, t5]
    have z51 : W2.frozen? ⟨W.heap.size + 1, 1, none⟩ = false := by simp [World.frozen?, t5]
    have z52 : W2.frozen? ⟨W.heap.size + 1, 2, none⟩ = false := by simp [World.frozen?, t5]
    rw [hz] at q60 q61 q62
    clear t5 t6
    subst hW2
    subst hW1
    go_enter Try.func122, Try.ntmps122
    go_wp2
    have hbz : ∀ o2 o3, Below W.heap.size W (((W.alloc (tnB tm s)).alloc o2).alloc o3) := fun o2 o3 => (((Below.refl _ _).alloc (Nat.le_refl _) _).alloc (by simp) _).alloc (by simp; omega) _
    (try simp only [Exit.inBlock, Exit.then]); refine bodyPost_ret (results_kg _ _ (W.heap.size + 1) (.int .i64 ((Gm tm s).1 : Int)) (.int .i64 ((Gm tm s).2.1 : Int)) (.int .i64 (Gm tm s).2.2) rfl ?_ ?_ ?_) rfl ⟨rfl, HI0.out.below (hbz _ _), KpM.below (hbz _ _)⟩
    · rw [cell_old _ _ _ _ (by simp), ← e1, World.cell?_alloc_new]; rfl
    · rw [cell_old _ _ _ _ (by simp), ← e1, World.cell?_alloc_new]; rfl
    · rw [cell_old _ _ _ _ (by simp), ← e1, World.cell?_alloc_new]; rfl
end Go.Proofs.Ytecmeppkggifeaa
