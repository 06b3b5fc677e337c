/- GameMove: the program's, and the law's walk. -/
import Derived.Test.YtflpncdnneapmaaBmG
import Derived.Deep.RegionWith
import Derived.BigQuiet
namespace Go.Proofs.Ytflpncdnneapmaa
open Go.RowKit Go.Maps Go.Shelf

theorem KpN.frozen {B n : Nat} {W W' : World} (h : KpN B n W W') {b o : Nat} (hb : b < W.heap.size) (hn : b < n) (hne : b ≠ B) : W'.frozen? ⟨b, o, none⟩ = W.frozen? ⟨b, o, none⟩ :=
  World.frozen?_of_block (a := ⟨b, o, none⟩) (h.far b hne hn hb)
theorem below_drewM {B : Nat} {a w : World} (h : Below B a w) (n : Nat) : Below B a (w.drewN n) := ⟨h.os, h.tape, h.output, h.size, h.block⟩
theorem results_iG (tmps : Array Value) (w : World) (g : Nat) (x y : Value) (hp : tmps.getD 4 undef = .pointer (some ⟨g, 0, none⟩)) (c0 : w.cell? ⟨g, 0, none⟩ = some x) (c1 : w.cell? ⟨g, 1, none⟩ = some y) :
    (results Try.f17 tmps).run Try.prog w = .ok (.tuple #[.agg #[x, y], tmps.getD 5 undef]) w := by
  have hr : Try.f17.results = #[.cell 4 31, .tmp 5] := rfl
  unfold results
  rw [hr]
  simp at hp
  simp [hp, asAddr, c0, c1, go_sem]
set_option maxRecDepth 100000 in
set_option maxHeartbeats 4000000 in
theorem gameMove_any (wl : List UInt8) (tm : Bool) (w : World) (hs : (str wl).size ≤ maxLen) :
    Calls Try.prog 17 #[.string (str wl), .bool tm] w fun e w' => e = .returned (gmvR (gmv tm wl)) ∧ Below w.heap.size w w' := by
  have h1s := one_slice (w.alloc (.cells #[.int .i64 0, .int .i64 0] 31)) wl
  rw [World.size_alloc] at h1s
  obtain ⟨W1, hW1⟩ : ∃ W1, W1 = (w.alloc (.cells #[.int .i64 0, .int .i64 0] 31)).alloc (.cells #[.string (str wl)] 9) := ⟨_, rfl⟩
  rw [← hW1] at h1s
  have hz1 : W1.heap.size = w.heap.size + 2 := by rw [hW1]; simp
  have hB1 : Below w.heap.size w W1 := by rw [hW1]; exact ((Below.refl _ _).alloc (Nat.le_refl _) _).alloc (by simp) _
  have c2 : W1.cell? ⟨w.heap.size, 0, none⟩ = some (.int .i64 0) := by rw [hW1, cell_old _ _ _ _ (by simp), World.cell?_alloc_new]; rfl
  have c3 : W1.cell? ⟨w.heap.size, 1, none⟩ = some (.int .i64 0) := by rw [hW1, cell_old _ _ _ _ (by simp), World.cell?_alloc_new]; rfl
  have f2 : W1.frozen? ⟨w.heap.size, 0, none⟩ = false := by rw [hW1, World.frozen?_alloc_past _ _ _ (by simp)]; exact World.frozen?_alloc_new _ _ _ _
  have f3 : W1.frozen? ⟨w.heap.size, 1, none⟩ = false := by rw [hW1, World.frozen?_alloc_past _ _ _ (by simp)]; exact World.frozen?_alloc_new _ _ _ _
  have hl1 : w.heap.size < W1.heap.size := by omega
  cases hf : fewB (str wl)
  · have e0 : gmv tm wl = none := by unfold gmv; rw [hf]; rfl
    have HT := Lib.hid (turnOf_no tm [wl] (some ⟨w.heap.size + 1, 0, none⟩) 1 _ h1s (fun x hx => by simp at hx; subst hx; rw [str_size] at hs; exact hs) (by rw [sumOk_one]; exact hf))
    rw [e0]
    clear hf e0 hs h1s
    go_enter Try.func17, Try.ntmps17
    go_wp2_with fail
    rw [← hW1]
    refine HT.out.mono ?_
    rintro e w2 ⟨rfl, hb2⟩
    have d2 := (hb2.cell (p := ⟨w.heap.size, 0, none⟩) hl1).trans c2
    have d3 := (hb2.cell (p := ⟨w.heap.size, 1, none⟩) hl1).trans c3
    have g2 := (hb2.frozen (p := ⟨w.heap.size, 0, none⟩) hl1).trans f2
    have g3 := (hb2.frozen (p := ⟨w.heap.size, 1, none⟩) hl1).trans f3
    have hz2 := hb2.size
    have hl2 : w.heap.size < w2.heap.size := by omega
    have HB2 := Lib.hid (hB1.trans (hb2.mono (by omega)))
    obtain ⟨W3, hW3⟩ : ∃ W3, W3 = w2.alloc (.cells #[.string ⟨#[]⟩, .int .u8 0] 66) := ⟨_, rfl⟩
    have k2 : W3.cell? ⟨w.heap.size, 0, none⟩ = some (.int .i64 0) := by rw [hW3, cell_old _ _ _ _ hl2]; exact d2
    have k3 : W3.cell? ⟨w.heap.size, 1, none⟩ = some (.int .i64 0) := by rw [hW3, cell_old _ _ _ _ hl2]; exact d3
    have l2 : W3.frozen? ⟨w.heap.size, 0, none⟩ = false := by rw [hW3, World.frozen?_alloc_past _ _ _ hl2]; exact g2
    have l3 : W3.frozen? ⟨w.heap.size, 1, none⟩ = false := by rw [hW3, World.frozen?_alloc_past _ _ _ hl2]; exact g3
    have HB3 : Hid (Below w.heap.size w W3) := by rw [hW3]; exact Lib.hid (HB2.out.alloc (by omega) _)
    clear hW1 c2 c3 f2 f3 hb2 hB1 d2 d3 g2 g3
    go_upto_region 2 with fail
    rw [← hW3]
    clear hW3
    go_wp2
    (try simp only [Exit.inBlock, Exit.then]); refine bodyPost_ret (results_iG _ _ w.heap.size (.int .i64 0) (.int .i64 0) rfl ?_ ?_) rfl ?_
    · exact (two_set k2 k3).1
    · exact (two_set k2 k3).2
    · exact ⟨rfl, (HB3.out.setCell (Nat.le_refl _) _).setCell (Nat.le_refl _) _⟩
  · have e0 : gmv tm wl = gmvO tm wl := by unfold gmv; rw [if_pos hf]
    have HT : Hid (Calls Try.prog 37 #[.bool tm, .slice (some ⟨w.heap.size + 1, 0, none⟩) 1 1] W1 fun e w' => e = .returned (.tuple #[tnV tm wl, .bool true]) ∧ Below W1.heap.size W1 w') := Lib.hid (turnOf_yes tm [wl] (some ⟨w.heap.size + 1, 0, none⟩) 1 _ h1s (by simp) (by rw [sumOk_one]; exact hf))
    obtain ⟨hL, hsig⟩ := few_sig hf
    have HR : Hid (gmvR (gmvO tm wl) = .tuple #[.agg #[.int .i64 ((gmvO tm wl).getD (0, 0)).1, .int .i64 ((gmvO tm wl).getD (0, 0)).2], .bool (gmvO tm wl).isSome]) := Lib.hid rfl
    have HTE := Lib.hid (fun B Bt Br Bs wx h => tnGame_any wl.length B Bt Br Bs tm wl wx hL hsig h)
    have HWI := Lib.hid (fun wx => winning_ex wl.length wx)
    rw [e0]
    rw [HR.out] at HTE ⊢
    clear HR e0 hf hs hsig h1s
    generalize ((gmvO tm wl).getD (0, 0)).1 = x at *
    generalize ((gmvO tm wl).getD (0, 0)).2 = y at *
    generalize (gmvO tm wl).isSome = b at *
    generalize wl.length = L at *
    go_enter Try.func17, Try.ntmps17
    go_wp2_with fail
    rw [← hW1]
    refine HT.out.mono ?_
    rintro e w2 ⟨rfl, hb2⟩
    have d2 := (hb2.cell (p := ⟨w.heap.size, 0, none⟩) hl1).trans c2
    have d3 := (hb2.cell (p := ⟨w.heap.size, 1, none⟩) hl1).trans c3
    have g2 := (hb2.frozen (p := ⟨w.heap.size, 0, none⟩) hl1).trans f2
    have g3 := (hb2.frozen (p := ⟨w.heap.size, 1, none⟩) hl1).trans f3
    have hz2 := hb2.size
    have hl2 : w.heap.size < w2.heap.size := by omega
    have HB2 := Lib.hid (hB1.trans (hb2.mono (by omega)))
    obtain ⟨W3, hW3⟩ : ∃ W3, W3 = w2.alloc (tnB tm wl) := ⟨_, rfl⟩
    have f40 : W3.cell? ⟨w.heap.size, 0, none⟩ = some (.int .i64 0) := by rw [hW3, cell_old _ _ _ _ hl2]; exact d2
    have f41 : W3.cell? ⟨w.heap.size, 1, none⟩ = some (.int .i64 0) := by rw [hW3, cell_old _ _ _ _ hl2]; exact d3
    have z40 : W3.frozen? ⟨w.heap.size, 0, none⟩ = false := by rw [hW3, World.frozen?_alloc_past _ _ _ hl2]; exact g2
    have z41 : W3.frozen? ⟨w.heap.size, 1, none⟩ = false := by rw [hW3, World.frozen?_alloc_past _ _ _ hl2]; exact g3
    have c60 : W3.cell? ⟨w2.heap.size, 0, none⟩ = some (.string (str wl)) := by rw [hW3, World.cell?_alloc_new]; rfl
    have c61 : W3.cell? ⟨w2.heap.size, 1, none⟩ = some (.int .u8 (kd tm).toNat) := by rw [hW3, World.cell?_alloc_new]; rfl
    have hz3 : W3.heap.size = w2.heap.size + 1 := by rw [hW3]; simp
    have HB3 : Hid (Below w.heap.size w W3) := by rw [hW3]; exact Lib.hid (HB2.out.alloc (by omega) _)
    have l4 : w.heap.size < W3.heap.size := by omega
    have l6 : w2.heap.size < W3.heap.size := by omega
    clear hW1 c2 c3 f2 f3 hb2 hB1 d2 d3 g2 g3
    go_wp2
    rw [← hW3]
    clear hW3
    go_region_with (first | (go_at_call 39; refine (HWI.out _).mono ?_; rintro e w3 ⟨B, Bt, Br, Bs, rfl, hI3, hBB, hb3⟩; have g60 := (hb3.cell (p := ⟨w2.heap.size, 0, none⟩) l6).trans c60; have g61 := (hb3.cell (p := ⟨w2.heap.size, 1, none⟩) l6).trans c61; have n4 := Nat.lt_of_lt_of_le l4 hb3.size; have nB := Nat.ne_of_lt (Nat.lt_of_lt_of_le l4 hBB); have g40 := (hb3.cell (p := ⟨w.heap.size, 0, none⟩) l4).trans f40; have g41 := (hb3.cell (p := ⟨w.heap.size, 1, none⟩) l4).trans f41; have y40 := (hb3.frozen (p := ⟨w.heap.size, 0, none⟩) l4).trans z40; have y41 := (hb3.frozen (p := ⟨w.heap.size, 1, none⟩) l4).trans z41) | (go_at_call 41; with_reducible refine (HTE.out _ _ _ _ _ hI3).mono ?_; rintro e w4 ⟨rfl, hI4, hk4⟩; have k40 := (hk4.cell (o := 0) n4 n4 nB).trans g40; have k41 := (hk4.cell (o := 1) n4 n4 nB).trans g41; have x40 := (hk4.frozen (o := 0) n4 n4 nB).trans y40; have x41 := (hk4.frozen (o := 1) n4 n4 nB).trans y41))
    all_goals
      go_wp2
      obtain ⟨m0, m1⟩ := two_set (x := .int .i64 x) (y := .int .i64 y) k40 k41
      (try simp only [Exit.inBlock, Exit.then]); refine bodyPost_ret (results_iG _ _ w.heap.size (.int .i64 x) (.int .i64 y) rfl m0 m1) rfl ⟨rfl, ?_⟩
      have hbb := hBB
      simp at hbb
      have e3 := (below_drewM HB3.out 1).trans (hb3.mono (by simp; omega))
      exact ((e3.trans (hk4.to_below (by omega) e3.size e3.size)).setCell (Nat.le_refl _) _).setCell (Nat.le_refl _) _
set_option maxRecDepth 100000 in
set_option maxHeartbeats 2000000 in
theorem walk_FnExactGameMove (s : ByteArray) (hs : s.size ≤ maxLen) (tm : Bool) (w : World) :
    Calls Try.prog 5 #[.string s, .bool tm] w fun e w' => e = .returned (.bool true) ∧ Below w.heap.size w w' := by
  by_cases hb1 : (1048576 : Int) < (s.size : Int)
  · go_enter Try.func5, Try.ntmps5
    go_wp2
    go_ret
    exact ⟨rfl, Below.refl _ _⟩
  obtain ⟨wl, rfl⟩ : ∃ l, s = str l := ⟨byt s, (str_byt s).symm⟩
  have HS := Lib.hid (fun wx => sGameMove_any wl tm wx hs)
  have HP := Lib.hid (fun wx => gameMove_any wl tm wx hs)
  have HR : Hid (gmvR (gmv tm wl) = .tuple #[.agg #[.int .i64 ((gmv tm wl).getD (0, 0)).1, .int .i64 ((gmv tm wl).getD (0, 0)).2], .bool (gmv tm wl).isSome]) := Lib.hid rfl
  rw [HR.out] at HS HP
  clear HR hs
  generalize ((gmv tm wl).getD (0, 0)).1 = x at *
  generalize ((gmv tm wl).getD (0, 0)).2 = y at *
  generalize (gmv tm wl).isSome = b at *
  have HQ := Lib.hid (fun wx => eqMove_same x y wx)
  go_enter Try.func5, Try.ntmps5
  go_wp2_with fail
  refine (HS.out _).mono ?_
  rintro e w1 ⟨rfl, hb2⟩
  go_wp2_with fail
  refine (HP.out _).mono ?_
  rintro e w3 ⟨rfl, hb3⟩
  have HB1 := Lib.hid (hb2.alloc hb2.size (.cells #[.int .i64 x, .int .i64 y] 31))
  have hz2 := HB1.out.size
  have q0 : (w1.alloc (.cells #[.int .i64 x, .int .i64 y] 31)).cell? ⟨w1.heap.size, 0, none⟩ = some (.int .i64 x) := by rw [World.cell?_alloc_new]; rfl
  have q1 : (w1.alloc (.cells #[.int .i64 x, .int .i64 y] 31)).cell? ⟨w1.heap.size, 1, none⟩ = some (.int .i64 y) := by rw [World.cell?_alloc_new]; rfl
  have p0 := (hb3.cell (p := ⟨w1.heap.size, 0, none⟩) (by simp)).trans q0
  have p1 := (hb3.cell (p := ⟨w1.heap.size, 1, none⟩) (by simp)).trans q1
  have hl : w1.heap.size < w3.heap.size := by have := hb3.size; simp at this; omega
  have HB3 := Lib.hid (HB1.out.trans (hb3.mono hz2))
  have hz3 := HB3.out.size
  clear q0 q1 hb2 hb3
  go_wp2_with fail
  refine (HQ.out _).mono ?_
  rintro e w4 ⟨rfl, hb4⟩
  have HB4 := Lib.hid ((HB3.out.alloc hz3 (.cells #[.int .i64 x, .int .i64 y] 31)).trans (hb4.mono (by simp; omega)))
  clear hb4
  go_wp2
  go_ret
  exact ⟨rfl, HB4.out⟩
end Go.Proofs.Ytflpncdnneapmaa
