/- The longest game, the shortest one, and how many: both sides, and the laws' walks. -/
import Derived.Test.YtecmeppkggifeaaGmI
import Derived.Test.YtecmeppkggifeaaGmF
import Derived.Deep.RegionWith
namespace Go.Proofs.Ytecmeppkggifeaa
open Go.RowKit Go.Maps Go.Shelf

theorem telG_new (L : Nat) (w : World) (T1 T3 T4 : TypeId) : TelG ((((w.alloc (.cells #[.func (.func 111) #[] #[]] T1)).alloc (.map #[] 0)).alloc (.cells #[.map (some (w.heap.size + 1))] T3)).alloc (.cells #[tgV (w.heap.size + 2) w.heap.size (w.heap.size + 3)] T4)) L (w.heap.size + 1) (w.heap.size + 2) w.heap.size (w.heap.size + 3) := by
  obtain ⟨z3, z2, z1, z4⟩ := four_blocks w (.cells #[.func (.func 111) #[] #[]] T1) (.map #[] 0) (.cells #[.map (some (w.heap.size + 1))] T3) (.cells #[tgV (w.heap.size + 2) w.heap.size (w.heap.size + 3)] T4)
  refine ⟨⟨.map [], ?_, fun tm s _ h => (by cases h), fun x h => (by cases h)⟩, ?_, ?_, ?_, by omega, by omega⟩
  · have := World.ownsMap_made (H := Unit) (w.alloc (.cells #[.func (.func 111) #[] #[]] T1)) Try.prog 67 gmsR
    rw [z1] at this
    exact ((this.alloc _).alloc _).mono (Nat.zero_le _)
  · rw [cell_old _ _ _ _ (by omega), ← z2, World.cell?_alloc_new]; rfl
  · rw [cell_old _ _ _ _ (by omega), cell_old _ _ _ _ (by omega), cell_old _ _ _ _ (by omega), World.cell?_alloc_new]; rfl
  · rw [← z3, World.cell?_alloc_new]; rw [z3]; rfl
/-- A teller is made. -/
def MadeG (L : Nat) (w : World) (e : Ending) (w' : World) : Prop := ∃ B Bt Br Bs, e = .returned (tgV Bt Br Bs) ∧ TelG w' L B Bt Br Bs ∧ w.heap.size ≤ B ∧ Below w.heap.size w w'
set_option maxRecDepth 100000 in
set_option maxHeartbeats 1000000 in
theorem keepG_any (L : Nat) (w : World) :
    Calls Try.prog 110 #[.func (.func 111) #[] #[]] w (MadeG L w) := by
  have hmm := @run_makeMap Try.prog
  go_enter Try.func110, Try.ntmps110
  go_wp2
  go_ret
  refine ⟨w.heap.size + 1, w.heap.size + 2, w.heap.size, w.heap.size + 3, rfl, telG_new L w _ _ _, by omega, ?_⟩
  exact ((((Below.refl _ w).alloc (Nat.le_refl _) _).alloc (by simp) _).alloc (by simp; omega) _).alloc (by simp; omega) _
theorem results_go (tmps : Array Value) (w : World) (g : Nat) (x y z : Value) (hp : tmps.getD 4 undef = .pointer (some ⟨g, 0, none⟩)) (c0 : w.cell? ⟨g, 0, none⟩ = some x) (c1 : w.cell? ⟨g, 1, none⟩ = some y) (c2 : w.cell? ⟨g, 2, none⟩ = some z) :
    (results Try.f84 tmps).run Try.prog w = .ok (.tuple #[.agg #[x, y, z], tmps.getD 5 undef]) w := by
  have hr : Try.f84.results = #[.cell 4 89, .tmp 5] := rfl
  unfold results
  rw [hr]
  simp at hp
  simp [hp, asAddr, c0, c1, c2, go_sem]

set_option maxRecDepth 100000 in
set_option maxHeartbeats 4000000 in
theorem gamesOf_no (wl : List UInt8) (tm : Bool) (w : World) (hs : (str wl).size ≤ maxLen) (hf : fewB (str wl) = false) :
    Calls Try.prog 84 #[.string (str wl), .bool tm] w fun e w' => e = .returned (.tuple #[.agg #[.int .i64 0, .int .i64 0, .int .i64 0], .bool false]) ∧ Below w.heap.size w w' := by
  have hsz : ∀ x ∈ [wl], x.length ≤ maxLen := fun x hx => by simp at hx; subst hx; rw [str_size] at hs; exact hs
  have HT : Hid (Calls Try.prog 62 #[.bool tm, .slice (some ⟨w.heap.size + 1, 0, none⟩) 1 1] ((w.alloc (.cells #[.int .i64 0, .int .i64 0, .int .i64 0] 89)).alloc (.cells #[.string (str wl)] 9)) fun e w' => e = .returned (.tuple #[.agg #[.string ⟨#[]⟩, .int .u8 0], .bool false]) ∧ Below ((w.alloc (.cells #[.int .i64 0, .int .i64 0, .int .i64 0] 89)).alloc (.cells #[.string (str wl)] 9)).heap.size ((w.alloc (.cells #[.int .i64 0, .int .i64 0, .int .i64 0] 89)).alloc (.cells #[.string (str wl)] 9)) w') := by
    have hA := one_slice (w.alloc (.cells #[.int .i64 0, .int .i64 0, .int .i64 0] 89)) wl
    rw [World.size_alloc] at hA
    exact Lib.hid (turnOf_no tm [wl] (some ⟨w.heap.size + 1, 0, none⟩) 1 _ hA hsz (by rw [sumOk_one]; exact hf))
  clear hf
  go_enter Try.func84, Try.ntmps84
  go_wp2_with fail
  have hB := ((Below.refl w.heap.size w).alloc (Nat.le_refl _) (.cells #[.int .i64 0, .int .i64 0, .int .i64 0] 89)).alloc (by simp) (.cells #[.string (str wl)] 9)
  have c4 : ((w.alloc (.cells #[.int .i64 0, .int .i64 0, .int .i64 0] 89)).alloc (.cells #[.string (str wl)] 9)).heap[w.heap.size]? = some (.cells #[.int .i64 0, .int .i64 0, .int .i64 0] 89 (0, 0)) := by
    rw [Below.heap_alloc _ _ _ (by simp)]; exact heap_alloc_new _ _
  refine HT.out.mono ?_
  rintro e w1 ⟨rfl, hb1⟩
  have hz1 := hb1.size
  simp at hz1
  have d4 : w1.heap[w.heap.size]? = some (.cells #[.int .i64 0, .int .i64 0, .int .i64 0] 89 (0, 0)) := (hb1.block _ (by simp; omega)).trans c4
  have HB1 := Lib.hid (hB.trans (hb1.mono (by simp; omega)))
  clear hB hb1 c4
  have f40 : w1.cell? ⟨w.heap.size, 0, none⟩ = some (.int .i64 0) := by simp [World.cell?, d4]
  have f41 : w1.cell? ⟨w.heap.size, 1, none⟩ = some (.int .i64 0) := by simp [World.cell?, d4]
  have f42 : w1.cell? ⟨w.heap.size, 2, none⟩ = some (.int .i64 0) := by simp [World.cell?, d4]
  have z40 : w1.frozen? ⟨w.heap.size, 0, none⟩ = false := by simp [World.frozen?, d4]
  have z41 : w1.frozen? ⟨w.heap.size, 1, none⟩ = false := by simp [World.frozen?, d4]
  have z42 : w1.frozen? ⟨w.heap.size, 2, none⟩ = false := by simp [World.frozen?, d4]
  have hlt : w.heap.size < w1.heap.size := by omega
  clear d4
  obtain ⟨m0, m1, m2⟩ := three_set (.int .i64 0) (.int .i64 0) (.int .i64 0) f40 f41 f42
  have HM := Lib.hid (And.intro m0 (And.intro m1 m2))
  clear m0 m1 m2
  go_wp2
  (try simp only [Exit.inBlock, Exit.then]); refine bodyPost_ret (results_go _ _ w.heap.size (.int .i64 0) (.int .i64 0) (.int .i64 0) rfl ?_ ?_ ?_) rfl ⟨rfl, ?_⟩
  · rw [cell_old _ _ _ _ (by simpa using hlt)]; exact HM.out.1
  · rw [cell_old _ _ _ _ (by simpa using hlt)]; exact HM.out.2.1
  · rw [cell_old _ _ _ _ (by simpa using hlt)]; exact HM.out.2.2
  · exact (((HB1.out.setCell (Nat.le_refl _) _).setCell (Nat.le_refl _) _).setCell (Nat.le_refl _) _).alloc (by simp; omega) _

set_option maxRecDepth 100000 in
set_option maxHeartbeats 4000000 in
theorem gamesOf_yes (wl : List UInt8) (tm : Bool) (w : World) (hf : fewB (str wl) = true) :
    Calls Try.prog 84 #[.string (str wl), .bool tm] w fun e w' => e = .returned (.tuple #[gV (Gm tm wl), .bool true]) ∧ Below w.heap.size w w' := by
  have hok : sumOk [wl] = true := by rw [sumOk_one]; exact hf
  have hG := sumOk_sum hok
  have hL12 := hG.le
  have hsig := hG.sigT
  have HT : Hid (Calls Try.prog 62 #[.bool tm, .slice (some ⟨w.heap.size + 1, 0, none⟩) 1 1] ((w.alloc (.cells #[.int .i64 0, .int .i64 0, .int .i64 0] 89)).alloc (.cells #[.string (str wl)] 9)) fun e w' => e = .returned (.tuple #[.agg #[.string (str wl), .int .u8 (kd tm).toNat], .bool true]) ∧ Below ((w.alloc (.cells #[.int .i64 0, .int .i64 0, .int .i64 0] 89)).alloc (.cells #[.string (str wl)] 9)).heap.size ((w.alloc (.cells #[.int .i64 0, .int .i64 0, .int .i64 0] 89)).alloc (.cells #[.string (str wl)] 9)) w') := by
    have hA := one_slice (w.alloc (.cells #[.int .i64 0, .int .i64 0, .int .i64 0] 89)) wl
    rw [World.size_alloc] at hA
    exact Lib.hid (turnOf_yes tm [wl] (some ⟨w.heap.size + 1, 0, none⟩) 1 _ hA (by simp) hok)
  have hTE : ∀ B Bt Br Bs wx, TelG wx wl.length B Bt Br Bs → Calls Try.prog 122 #[.agg #[.string (str wl), .int .u8 (kd tm).toNat], .pointer (some ⟨Bt, 0, none⟩), .pointer (some ⟨Br, 0, none⟩), .pointer (some ⟨Bs, 0, none⟩)] wx fun e w' => e = .returned (gV (Gm tm wl)) ∧ KpM B wx w' := fun B Bt Br Bs wx h => (telG_any wl.length B Bt Br Bs hL12 _ tm wl wx rfl hsig h).mono fun _ _ ⟨a, _, c⟩ => ⟨a, c⟩
  have HTE := Lib.hid hTE
  have HMK := Lib.hid (fun wx => keepG_any wl.length wx)
  clear hTE hok hG hsig hf hL12
  generalize Gm tm wl = c at HTE
  obtain ⟨ca, cb, cc⟩ := c
  generalize (kd tm).toNat = kc at HT HTE
  show Calls Try.prog 84 #[.string (str wl), .bool tm] w fun e w' => e = .returned (.tuple #[.agg #[.int .i64 (ca : Int), .int .i64 (cb : Int), .int .i64 cc], .bool true]) ∧ Below w.heap.size w w'
  go_enter Try.func84, Try.ntmps84
  go_wp2_with fail
  have hB := ((Below.refl w.heap.size w).alloc (Nat.le_refl _) (.cells #[.int .i64 0, .int .i64 0, .int .i64 0] 89)).alloc (by simp) (.cells #[.string (str wl)] 9)
  have c4 : ((w.alloc (.cells #[.int .i64 0, .int .i64 0, .int .i64 0] 89)).alloc (.cells #[.string (str wl)] 9)).heap[w.heap.size]? = some (.cells #[.int .i64 0, .int .i64 0, .int .i64 0] 89 (0, 0)) := by
    rw [Below.heap_alloc _ _ _ (by simp)]; exact heap_alloc_new _ _
  refine HT.out.mono ?_
  rintro e w1 ⟨rfl, hb1⟩
  have hz1 := hb1.size
  simp at hz1
  have d4 : w1.heap[w.heap.size]? = some (.cells #[.int .i64 0, .int .i64 0, .int .i64 0] 89 (0, 0)) := (hb1.block _ (by simp; omega)).trans c4
  obtain ⟨W2, hW2⟩ : ∃ W2, W2 = w1.alloc (.cells #[.string (str wl), .int .u8 kc] 67) := ⟨_, rfl⟩
  have hz2 : W2.heap.size = w1.heap.size + 1 := by rw [hW2]; simp
  have c60 : W2.cell? ⟨w1.heap.size, 0, none⟩ = some (.string (str wl)) := by rw [hW2, World.cell?_alloc_new]; rfl
  have c61 : W2.cell? ⟨w1.heap.size, 1, none⟩ = some (.int .u8 kc) := by rw [hW2, World.cell?_alloc_new]; rfl
  have d42 : W2.heap[w.heap.size]? = some (.cells #[.int .i64 0, .int .i64 0, .int .i64 0] 89 (0, 0)) := by rw [hW2, Below.heap_alloc _ _ _ (by omega)]; exact d4
  have HB2 : Hid (Below w.heap.size w W2) := by rw [hW2]; exact Lib.hid ((hB.trans (hb1.mono (by simp; omega))).alloc (by omega) _)
  have f40 : W2.cell? ⟨w.heap.size, 0, none⟩ = some (.int .i64 0) := by simp [World.cell?, d42]
  have f41 : W2.cell? ⟨w.heap.size, 1, none⟩ = some (.int .i64 0) := by simp [World.cell?, d42]
  have f42 : W2.cell? ⟨w.heap.size, 2, none⟩ = some (.int .i64 0) := by simp [World.cell?, d42]
  have z40 : W2.frozen? ⟨w.heap.size, 0, none⟩ = false := by simp [World.frozen?, d42]
  have z41 : W2.frozen? ⟨w.heap.size, 1, none⟩ = false := by simp [World.frozen?, d42]
  have z42 : W2.frozen? ⟨w.heap.size, 2, none⟩ = false := by simp [World.frozen?, d42]
  have l4 : w.heap.size < W2.heap.size := by omega
  have l6 : w1.heap.size < W2.heap.size := by omega
  clear hB hb1 c4 d4 d42
  go_wp2
  rw [← hW2]
  clear hW2
  go_region_with (first | (go_at_call 110; refine (HMK.out _).mono ?_; rintro e w3 ⟨B, Bt, Br, Bs, rfl, hI3, hBB, hb3⟩; have g60 := (hb3.cell (p := ⟨w1.heap.size, 0, none⟩) l6).trans c60; have g61 := (hb3.cell (p := ⟨w1.heap.size, 1, none⟩) l6).trans c61; have n4 := Nat.lt_of_lt_of_le l4 hb3.size; have nB := Nat.ne_of_lt (Nat.lt_of_lt_of_le l4 hBB); have g40 := (hb3.cell (p := ⟨w.heap.size, 0, none⟩) l4).trans f40; have g41 := (hb3.cell (p := ⟨w.heap.size, 1, none⟩) l4).trans f41; have g42 := (hb3.cell (p := ⟨w.heap.size, 2, none⟩) l4).trans f42; have y40 := (hb3.frozen (p := ⟨w.heap.size, 0, none⟩) l4).trans z40; have y41 := (hb3.frozen (p := ⟨w.heap.size, 1, none⟩) l4).trans z41; have y42 := (hb3.frozen (p := ⟨w.heap.size, 2, none⟩) l4).trans z42) | (go_at_call 122; with_reducible refine (HTE.out _ _ _ _ _ hI3).mono ?_; rintro e w4 ⟨rfl, hk4⟩; have k40 := (hk4.cell (o := 0) n4 nB).trans g40; have k41 := (hk4.cell (o := 1) n4 nB).trans g41; have k42 := (hk4.cell (o := 2) n4 nB).trans g42; have x40 := (hk4.frozen (o := 0) n4 nB).trans y40; have x41 := (hk4.frozen (o := 1) n4 nB).trans y41; have x42 := (hk4.frozen (o := 2) n4 nB).trans y42))
  all_goals
    go_wp2
    obtain ⟨m0, m1, m2⟩ := three_set (.int .i64 (ca : Int)) (.int .i64 (cb : Int)) (.int .i64 cc) k40 k41 k42
    (try simp only [Exit.inBlock, Exit.then]); refine bodyPost_ret (results_go _ _ w.heap.size (.int .i64 (ca : Int)) (.int .i64 (cb : Int)) (.int .i64 cc) rfl m0 m1 m2) rfl ⟨rfl, ?_⟩
    have hbb := hBB
    simp at hbb
    have e3 := (below_drewN HB2.out 1).trans (hb3.mono (by simp; omega))
    exact (((e3.trans (hk4.to_below (by omega) e3.size)).setCell (Nat.le_refl _) _).setCell (Nat.le_refl _) _).setCell (Nat.le_refl _) _
set_option maxRecDepth 100000 in
set_option maxHeartbeats 2000000 in
theorem pLongestGame_any (wl : List UInt8) (tm : Bool) (w : World) (hs : (str wl).size ≤ maxLen) :
    Calls Try.prog 53 #[.string (str wl), .bool tm] w fun e w' => e = .returned (intOr (fewB (str wl)) ((Gm tm wl).1 : Int)) ∧ Below w.heap.size w w' := by
  cases hf : fewB (str wl)
  · have HG := Lib.hid (gamesOf_no wl tm w hs hf)
    clear hf
    go_enter Try.func53, Try.ntmps53
    go_wp2_with fail
    refine HG.out.mono ?_
    rintro e w1 ⟨rfl, hb1⟩
    go_wp2
    go_ret2
    exact ⟨rfl, hb1.alloc hb1.size _⟩
  · have HG := Lib.hid (gamesOf_yes wl tm w hf)
    clear hf
    show Calls Try.prog 53 #[.string (str wl), .bool tm] w fun e w' => e = .returned (.tuple #[.int .i64 ((Gm tm wl).1 : Int), .bool true]) ∧ Below w.heap.size w w'
    generalize Gm tm wl = c at HG
    obtain ⟨ca, cb, cc⟩ := c
    go_enter Try.func53, Try.ntmps53
    go_wp2_with fail
    refine HG.out.mono ?_
    rintro e w1 ⟨rfl, hb1⟩
    go_wp2
    go_ret2
    exact ⟨rfl, hb1.alloc hb1.size _⟩
set_option maxRecDepth 100000 in
set_option maxHeartbeats 2000000 in
theorem sLongestGame_any (wl : List UInt8) (tm : Bool) (w : World) (hs : (str wl).size ≤ maxLen) :
    Calls Try.prog 52 #[.string (str wl), .bool tm] w fun e w' => e = .returned (intOr (fewB (str wl)) ((Gm tm wl).1 : Int)) ∧ Below w.heap.size w w' := by
  cases hf : fewB (str wl)
  · have HF := Lib.hid hf
    clear hf
    go_enter Try.func52, Try.ntmps52
    go_wp2_with (go_at_call 58; refine (gaFew_any _ _ hs).mono ?_; rintro e w' ⟨rfl, rfl⟩; rw [HF.out])
    go_ret2
    exact ⟨rfl, Below.refl _ _⟩
  · have HF := Lib.hid hf
    have hg : goodL (str wl) = true := by unfold fewB at hf; exact (Bool.and_eq_true _ _ ▸ hf).1
    have HO := Lib.hid (ofGm_any _ w.heap.size wl.length tm wl _ [] rfl hg rfl (KnG.new w wl.length))
    have hEx : Hid (∀ k, Ex w.heap.size (w.alloc (.cells #[.slice none 0 0, .slice none 0 0, .slice none 0 0, .slice none 0 0] 87)) k → w.heap.size ≤ k) := Lib.hid fun k he => by
      obtain ⟨gs, v0, v1, v2, v3, hM⟩ := KnG.new w wl.length
      exact (hM.mem.ex_in k he).1
    clear hf hg
    show Calls Try.prog 52 #[.string (str wl), .bool tm] w fun e w' => e = .returned (.tuple #[.int .i64 ((Gm tm wl).1 : Int), .bool true]) ∧ Below w.heap.size w w'
    obtain ⟨c, hc⟩ : ∃ c, c = Gm tm wl := ⟨_, rfl⟩
    rw [← hc]
    have HCC := Lib.hid hc
    clear hc
    go_enter Try.func52, Try.ntmps52
    go_wp2_with (go_at_call 58; refine (gaFew_any _ _ hs).mono ?_; rintro e w' ⟨rfl, rfl⟩; rw [HF.out])
    refine HO.out.mono ?_
    rintro e w2 ⟨ks, j, hj, rfl, hkey, ⟨gs, v0, v1, v2, v3, hM⟩, _, hkp⟩
    have hB2 : Below w.heap.size w w2 := ((Below.refl w.heap.size w).alloc (Nat.le_refl _) _).trans (hkp.to_below (by simp) hEx.out)
    have HB2 := Lib.hid hB2
    obtain ⟨x1, y1, x2, y2, x3, y3, rfl, rfl, rfl, d1, d2, d3⟩ := hM.at hj hkey
    obtain ⟨_, c51, c52, c53⟩ := hM.cells
    clear hM hkey hkp hB2
    rw [← HCC.out] at d1 d2 d3
    clear HCC
    obtain ⟨ca, cb, cc⟩ := c
    simp only at d1 d2 d3
    have k1 : (0 : Int) ≤ (j : Int) := by omega
    have k2 : (j : Int) < (ks.length : Int) := by omega
    go_wp2
    go_ret2
    exact ⟨rfl, HB2.out⟩
set_option maxHeartbeats 1000000 in
theorem walk_FnExactLongestGame (s : ByteArray) (hs : s.size ≤ maxLen) (tm : Bool) (w : World) :
    Calls Try.prog 15 #[.string s, .bool tm] w fun e w' => e = .returned (.bool true) ∧ Below w.heap.size w w' := by
  obtain ⟨wl, hwl⟩ : ∃ wl, s = str wl := ⟨byt s, (str_byt s).symm⟩
  subst hwl
  by_cases hbig : (1048576 : Int) < ((str wl).size : Int)
  · go_enter Try.func15, Try.ntmps15
    go_wp2
    go_ret
    exact ⟨rfl, Below.refl _ _⟩
  · have HS := Lib.hid (fun wx => sLongestGame_any wl tm wx hs)
    have HP := Lib.hid (fun wx => pLongestGame_any wl tm wx hs)
    generalize ((Gm tm wl).1 : Int) = r at HS HP
    unfold intOr at HS HP
    generalize fewB (str wl) = q at HS HP
    cases q
    all_goals
      simp only [if_true, if_false, Bool.false_eq_true] at HS HP
      go_enter Try.func15, Try.ntmps15
      go_wp2_with fail
      refine (HS.out _).mono ?_
      rintro e w1 ⟨rfl, hb1⟩
      go_wp2_with fail
      refine (HP.out _).mono ?_
      rintro e w2 ⟨rfl, hb2⟩
      go_wp2
      go_ret
      exact ⟨rfl, hb1.trans (hb2.mono hb1.size)⟩

set_option maxRecDepth 100000 in
set_option maxHeartbeats 2000000 in
theorem pShortestGame_any (wl : List UInt8) (tm : Bool) (w : World) (hs : (str wl).size ≤ maxLen) :
    Calls Try.prog 55 #[.string (str wl), .bool tm] w fun e w' => e = .returned (intOr (fewB (str wl)) ((Gm tm wl).2.1 : Int)) ∧ Below w.heap.size w w' := by
  cases hf : fewB (str wl)
  · have HG := Lib.hid (gamesOf_no wl tm w hs hf)
    clear hf
    go_enter Try.func55, Try.ntmps55
    go_wp2_with fail
    refine HG.out.mono ?_
    rintro e w1 ⟨rfl, hb1⟩
    go_wp2
    go_ret2
    exact ⟨rfl, hb1.alloc hb1.size _⟩
  · have HG := Lib.hid (gamesOf_yes wl tm w hf)
    clear hf
    show Calls Try.prog 55 #[.string (str wl), .bool tm] w fun e w' => e = .returned (.tuple #[.int .i64 ((Gm tm wl).2.1 : Int), .bool true]) ∧ Below w.heap.size w w'
    generalize Gm tm wl = c at HG
    obtain ⟨ca, cb, cc⟩ := c
    go_enter Try.func55, Try.ntmps55
    go_wp2_with fail
    refine HG.out.mono ?_
    rintro e w1 ⟨rfl, hb1⟩
    go_wp2
    go_ret2
    exact ⟨rfl, hb1.alloc hb1.size _⟩
set_option maxRecDepth 100000 in
set_option maxHeartbeats 2000000 in
theorem sShortestGame_any (wl : List UInt8) (tm : Bool) (w : World) (hs : (str wl).size ≤ maxLen) :
    Calls Try.prog 54 #[.string (str wl), .bool tm] w fun e w' => e = .returned (intOr (fewB (str wl)) ((Gm tm wl).2.1 : Int)) ∧ Below w.heap.size w w' := by
  cases hf : fewB (str wl)
  · have HF := Lib.hid hf
    clear hf
    go_enter Try.func54, Try.ntmps54
    go_wp2_with (go_at_call 58; refine (gaFew_any _ _ hs).mono ?_; rintro e w' ⟨rfl, rfl⟩; rw [HF.out])
    go_ret2
    exact ⟨rfl, Below.refl _ _⟩
  · have HF := Lib.hid hf
    have hg : goodL (str wl) = true := by unfold fewB at hf; exact (Bool.and_eq_true _ _ ▸ hf).1
    have HO := Lib.hid (ofGm_any _ w.heap.size wl.length tm wl _ [] rfl hg rfl (KnG.new w wl.length))
    have hEx : Hid (∀ k, Ex w.heap.size (w.alloc (.cells #[.slice none 0 0, .slice none 0 0, .slice none 0 0, .slice none 0 0] 87)) k → w.heap.size ≤ k) := Lib.hid fun k he => by
      obtain ⟨gs, v0, v1, v2, v3, hM⟩ := KnG.new w wl.length
      exact (hM.mem.ex_in k he).1
    clear hf hg
    show Calls Try.prog 54 #[.string (str wl), .bool tm] w fun e w' => e = .returned (.tuple #[.int .i64 ((Gm tm wl).2.1 : Int), .bool true]) ∧ Below w.heap.size w w'
    obtain ⟨c, hc⟩ : ∃ c, c = Gm tm wl := ⟨_, rfl⟩
    rw [← hc]
    have HCC := Lib.hid hc
    clear hc
    go_enter Try.func54, Try.ntmps54
    go_wp2_with (go_at_call 58; refine (gaFew_any _ _ hs).mono ?_; rintro e w' ⟨rfl, rfl⟩; rw [HF.out])
    refine HO.out.mono ?_
    rintro e w2 ⟨ks, j, hj, rfl, hkey, ⟨gs, v0, v1, v2, v3, hM⟩, _, hkp⟩
    have hB2 : Below w.heap.size w w2 := ((Below.refl w.heap.size w).alloc (Nat.le_refl _) _).trans (hkp.to_below (by simp) hEx.out)
    have HB2 := Lib.hid hB2
    obtain ⟨x1, y1, x2, y2, x3, y3, rfl, rfl, rfl, d1, d2, d3⟩ := hM.at hj hkey
    obtain ⟨_, c51, c52, c53⟩ := hM.cells
    clear hM hkey hkp hB2
    rw [← HCC.out] at d1 d2 d3
    clear HCC
    obtain ⟨ca, cb, cc⟩ := c
    simp only at d1 d2 d3
    have k1 : (0 : Int) ≤ (j : Int) := by omega
    have k2 : (j : Int) < (ks.length : Int) := by omega
    go_wp2
    go_ret2
    exact ⟨rfl, HB2.out⟩
set_option maxHeartbeats 1000000 in
theorem walk_FnExactShortestGame (s : ByteArray) (hs : s.size ≤ maxLen) (tm : Bool) (w : World) :
    Calls Try.prog 16 #[.string s, .bool tm] w fun e w' => e = .returned (.bool true) ∧ Below w.heap.size w w' := by
  obtain ⟨wl, hwl⟩ : ∃ wl, s = str wl := ⟨byt s, (str_byt s).symm⟩
  subst hwl
  by_cases hbig : (1048576 : Int) < ((str wl).size : Int)
  · go_enter Try.func16, Try.ntmps16
    go_wp2
    go_ret
    exact ⟨rfl, Below.refl _ _⟩
  · have HS := Lib.hid (fun wx => sShortestGame_any wl tm wx hs)
    have HP := Lib.hid (fun wx => pShortestGame_any wl tm wx hs)
    generalize ((Gm tm wl).2.1 : Int) = r at HS HP
    unfold intOr at HS HP
    generalize fewB (str wl) = q at HS HP
    cases q
    all_goals
      simp only [if_true, if_false, Bool.false_eq_true] at HS HP
      go_enter Try.func16, Try.ntmps16
      go_wp2_with fail
      refine (HS.out _).mono ?_
      rintro e w1 ⟨rfl, hb1⟩
      go_wp2_with fail
      refine (HP.out _).mono ?_
      rintro e w2 ⟨rfl, hb2⟩
      go_wp2
      go_ret
      exact ⟨rfl, hb1.trans (hb2.mono hb1.size)⟩

set_option maxRecDepth 100000 in
set_option maxHeartbeats 2000000 in
theorem pCountGames_any (wl : List UInt8) (tm : Bool) (w : World) (hs : (str wl).size ≤ maxLen) :
    Calls Try.prog 57 #[.string (str wl), .bool tm] w fun e w' => e = .returned (intOr (fewB (str wl)) (Gm tm wl).2.2) ∧ Below w.heap.size w w' := by
  cases hf : fewB (str wl)
  · have HG := Lib.hid (gamesOf_no wl tm w hs hf)
    clear hf
    go_enter Try.func57, Try.ntmps57
    go_wp2_with fail
    refine HG.out.mono ?_
    rintro e w1 ⟨rfl, hb1⟩
    go_wp2
    go_ret2
    exact ⟨rfl, hb1.alloc hb1.size _⟩
  · have HG := Lib.hid (gamesOf_yes wl tm w hf)
    clear hf
    show Calls Try.prog 57 #[.string (str wl), .bool tm] w fun e w' => e = .returned (.tuple #[.int .i64 (Gm tm wl).2.2, .bool true]) ∧ Below w.heap.size w w'
    generalize Gm tm wl = c at HG
    obtain ⟨ca, cb, cc⟩ := c
    go_enter Try.func57, Try.ntmps57
    go_wp2_with fail
    refine HG.out.mono ?_
    rintro e w1 ⟨rfl, hb1⟩
    go_wp2
    go_ret2
    exact ⟨rfl, hb1.alloc hb1.size _⟩
set_option maxRecDepth 100000 in
set_option maxHeartbeats 2000000 in
theorem sCountGames_any (wl : List UInt8) (tm : Bool) (w : World) (hs : (str wl).size ≤ maxLen) :
    Calls Try.prog 56 #[.string (str wl), .bool tm] w fun e w' => e = .returned (intOr (fewB (str wl)) (Gm tm wl).2.2) ∧ Below w.heap.size w w' := by
  cases hf : fewB (str wl)
  · have HF := Lib.hid hf
    clear hf
    go_enter Try.func56, Try.ntmps56
    go_wp2_with (go_at_call 58; refine (gaFew_any _ _ hs).mono ?_; rintro e w' ⟨rfl, rfl⟩; rw [HF.out])
    go_ret2
    exact ⟨rfl, Below.refl _ _⟩
  · have HF := Lib.hid hf
    have hg : goodL (str wl) = true := by unfold fewB at hf; exact (Bool.and_eq_true _ _ ▸ hf).1
    have HO := Lib.hid (ofGm_any _ w.heap.size wl.length tm wl _ [] rfl hg rfl (KnG.new w wl.length))
    have hEx : Hid (∀ k, Ex w.heap.size (w.alloc (.cells #[.slice none 0 0, .slice none 0 0, .slice none 0 0, .slice none 0 0] 87)) k → w.heap.size ≤ k) := Lib.hid fun k he => by
      obtain ⟨gs, v0, v1, v2, v3, hM⟩ := KnG.new w wl.length
      exact (hM.mem.ex_in k he).1
    clear hf hg
    show Calls Try.prog 56 #[.string (str wl), .bool tm] w fun e w' => e = .returned (.tuple #[.int .i64 (Gm tm wl).2.2, .bool true]) ∧ Below w.heap.size w w'
    obtain ⟨c, hc⟩ : ∃ c, c = Gm tm wl := ⟨_, rfl⟩
    rw [← hc]
    have HCC := Lib.hid hc
    clear hc
    go_enter Try.func56, Try.ntmps56
    go_wp2_with (go_at_call 58; refine (gaFew_any _ _ hs).mono ?_; rintro e w' ⟨rfl, rfl⟩; rw [HF.out])
    refine HO.out.mono ?_
    rintro e w2 ⟨ks, j, hj, rfl, hkey, ⟨gs, v0, v1, v2, v3, hM⟩, _, hkp⟩
    have hB2 : Below w.heap.size w w2 := ((Below.refl w.heap.size w).alloc (Nat.le_refl _) _).trans (hkp.to_below (by simp) hEx.out)
    have HB2 := Lib.hid hB2
    obtain ⟨x1, y1, x2, y2, x3, y3, rfl, rfl, rfl, d1, d2, d3⟩ := hM.at hj hkey
    obtain ⟨_, c51, c52, c53⟩ := hM.cells
    clear hM hkey hkp hB2
    rw [← HCC.out] at d1 d2 d3
    clear HCC
    obtain ⟨ca, cb, cc⟩ := c
    simp only at d1 d2 d3
    have k1 : (0 : Int) ≤ (j : Int) := by omega
    have k2 : (j : Int) < (ks.length : Int) := by omega
    go_wp2
    go_ret2
    exact ⟨rfl, HB2.out⟩
set_option maxHeartbeats 1000000 in
theorem walk_FnExactCountGames (s : ByteArray) (hs : s.size ≤ maxLen) (tm : Bool) (w : World) :
    Calls Try.prog 17 #[.string s, .bool tm] w fun e w' => e = .returned (.bool true) ∧ Below w.heap.size w w' := by
  obtain ⟨wl, hwl⟩ : ∃ wl, s = str wl := ⟨byt s, (str_byt s).symm⟩
  subst hwl
  by_cases hbig : (1048576 : Int) < ((str wl).size : Int)
  · go_enter Try.func17, Try.ntmps17
    go_wp2
    go_ret
    exact ⟨rfl, Below.refl _ _⟩
  · have HS := Lib.hid (fun wx => sCountGames_any wl tm wx hs)
    have HP := Lib.hid (fun wx => pCountGames_any wl tm wx hs)
    generalize (Gm tm wl).2.2 = r at HS HP
    unfold intOr at HS HP
    generalize fewB (str wl) = q at HS HP
    cases q
    all_goals
      simp only [if_true, if_false, Bool.false_eq_true] at HS HP
      go_enter Try.func17, Try.ntmps17
      go_wp2_with fail
      refine (HS.out _).mono ?_
      rintro e w1 ⟨rfl, hb1⟩
      go_wp2_with fail
      refine (HP.out _).mono ?_
      rintro e w2 ⟨rfl, hb2⟩
      go_wp2
      go_ret
      exact ⟨rfl, hb1.trans (hb2.mono hb1.size)⟩
end Go.Proofs.Ytecmeppkggifeaa
