/- Contract: the program's MakeOnBoard. -/
import Derived.Test.YtjnidfleccbdbaaDoorBdPq
import Derived.Test.YtjnidfleccbdbaaDoorBdPm
namespace Go.Proofs.YtjnidfleccbdbaaDoor
open Go.RowKit

theorem flat_setB : ∀ (R : List (List UInt8)) (wd y x : Nat) (c : UInt8), (∀ r ∈ R, r.length = wd) → y < R.length → x < wd → (R.set y ((R.getD y []).set x c)).flatten = R.flatten.set (y * wd + x) c
  | [], _, _, _, _, _, h, _ => by simp at h
  | r :: R, wd, 0, x, c, h, _, hx => by
    have e := h r (by simp)
    simp only [List.set_cons_zero, List.flatten_cons, Nat.zero_mul, Nat.zero_add]
    rw [List.set_append_left _ _ (by omega)]
    rfl
  | r :: R, wd, y + 1, x, c, h, hy, hx => by
    have e := h r (by simp)
    have ih := flat_setB R wd y x c (fun q hq => h q (by simp [hq])) (by simpa using hy) hx
    simp only [List.set_cons_succ, List.flatten_cons]
    rw [List.set_append_right _ _ (by rw [e, Nat.add_mul]; omega), show (y + 1) * wd + x - r.length = y * wd + x by rw [e, Nat.add_mul]; omega, ← ih]
    rfl
theorem boC_ne {R : List (List UInt8)} {wd : Nat} (G : GoodR R wd) {F T : Nat} (hF : F < R.length * wd) (hT : T < R.length * wd) (h : boC R wd F T = true) : F ≠ T := by
  obtain ⟨e1, hx, hy⟩ := split_num G hF
  obtain ⟨e2, hu, hv⟩ := split_num G hT
  rw [e1, e2, boC_num G hx hy hu hv] at h
  intro e
  subst e
  rcases (boCN_iff G hx hy hu hv).1 h with ⟨_, hc⟩ | ⟨_, hc⟩ <;>
  · obtain ⟨a, b, q1, q2, _, _, hne⟩ := canM_in hc
    omega
theorem mbR_flat {R : List (List UInt8)} {wd : Nat} (G : GoodR R wd) {F T : Nat} (hF : F < R.length * wd) (hT : T < R.length * wd) (hne : F ≠ T) : (mbR R wd F T).flatten = mvF R.flatten F T := by
  obtain ⟨e1, hx, hy⟩ := split_num G hF
  obtain ⟨e2, hu, hv⟩ := split_num G hT
  unfold mbR mkR mvF
  rw [Int.toNat_natCast, Int.toNat_natCast]
  have h1 : ∀ r ∈ mkR1 R (F % wd) (F / wd), r.length = wd := set_rows G.hl _ _ _
  rw [flat_setB _ wd _ _ _ h1 (by rw [mkR1_len]; exact hv) hu, ← e2]
  have h2 : (mkR1 R (F % wd) (F / wd)).flatten = R.flatten.set F 46 := by
    unfold mkR1
    rw [flat_setB _ wd _ _ _ G.hl hy hx, ← e1]
  rw [h2, ← flat_get R wd (F / wd) (F % wd) G.hl hy hx, ← e1, List.set_comm _ _ (by omega)]
theorem bm_mem {R : List (List UInt8)} {wd : Nat} (G : GoodR R wd) (f t : Int) : (f, t) ∈ bmL R wd R.length ↔ boC R wd f t = true := by
  rw [bm_same G, mem_bmS]
  constructor
  · rintro ⟨a, b, _, _, h, e⟩
    injection e with e1 e2
    subst e1; subst e2
    exact h
  · intro h
    obtain ⟨F, T, rfl, rfl, hF, hT⟩ := boC_in G h
    exact ⟨F, T, hF, hT, h, rfl⟩
theorem bmL_few {R : List (List UInt8)} {wd : Nat} (G : GoodR R wd) : (bmL R wd R.length).length ≤ 1000 := by
  have h := gaL_le R wd R.length G.hw.2 G.hh.2
  have hlen : (bmL R wd R.length).length = (gaL R wd R.length).length := List.length_mergeSort _
  rw [hlen]
  unfold gaL
  rw [List.length_append]
  omega
/-- One move made on a board's cells. -/
def mk1 (R : List (List UInt8)) (wd : Nat) (F : List UInt8) (a b : Int) : Option (List UInt8) := if boC R wd a b then some (mvF F a.toNat b.toNat) else none
theorem mk1_ok {R : List (List UInt8)} {wd : Nat} (G : GoodR R wd) (f t : Int) : MkB2 wd R.flatten.length [(f, t)] (mk1 R wd) (fun k F => k = 0 → F = R.flatten) where
  call k hk F hI g cap wx hc hg hb := by
    obtain rfl : k = 0 := by simpa using hk
    obtain rfl := hI rfl
    have HM : Hid (MvC R.flatten (bmL R wd R.length) wd g cap) := Lib.hid fun wy h1 h2 => moves_any R wd R.length R.flatten.length g cap wy rfl rfl G.hw.1 G.hw.2 G.hh.1 G.hh.2 G.hl G.gr G.gc hc h1 h2
    show Calls Tryd.prog 91 #[.agg #[.int .i64 wd, .slice (some ⟨g, 0, none⟩) R.flatten.length cap], .agg #[.int .i64 f, .int .i64 t]] wx (BhO wx wd R.flatten.length (mk1 R wd R.flatten f t))
    unfold mk1
    by_cases h : boC R wd f t = true
    · rw [if_pos h]
      obtain ⟨F, T, rfl, rfl, hF, hT⟩ := boC_in G h
      have hfl : R.flatten.length = R.length * wd := flat_eq R wd G.hl
      have h25 : R.length * wd ≤ 5 * 5 := Nat.mul_le_mul G.hh.2 G.hw.2
      exact behind_yes R.flatten _ wd g cap F T wx hg hb (bmL_few G) (by omega) (by omega) (by omega) (boC_ne G hF hT h) ((bm_mem G _ _).2 h) HM
    · rw [if_neg h]
      exact behind_no R.flatten _ wd g cap f t wx hg hb (bmL_few G) (fun hm => h ((bm_mem G _ _).1 hm)) HM
  keep _ _ _ _ _ _ := by intro h; omega
theorem play1 (R : List (List UInt8)) (wd : Nat) (F : List UInt8) (f t : Int) : playF (mk1 R wd) F [(f, t)] = if boC R wd f t then (mvF F f.toNat t.toNat, 1) else (F, 0) := by
  unfold playF mk1
  by_cases h : boC R wd f t = true
  · simp [h, playF]
  · simp [h]
set_option maxRecDepth 100000 in
set_option maxHeartbeats 4000000 in
theorem MakeOnB_any (s : ByteArray) (f t : Int) (w : World) (hs : s.size ≤ 2000000) :
    Calls Tryd.prog 25 #[.string s, .agg #[.int .i64 f, .int .i64 t]] w fun e w' => e = .returned (tbV (if mbOk (byt s) f t then mbT (byt s) f t else []) (mbOk (byt s) f t)) ∧ Below w.heap.size w w' := by
  have HP : Hid (∀ A c wx, MvAt wx A [(f, t)] → Calls Tryd.prog 51 #[.string s, .slice A 1 c] wx fun e w' => e = .returned (tbV (if mbOk (byt s) f t then mbT (byt s) f t else []) (mbOk (byt s) f t)) ∧ Below wx.heap.size wx w') := Lib.hid fun A c wx hat => by
    cases hg : goodB (byt s)
    · have e : mbOk (byt s) f t = false := by unfold mbOk; rw [hg]; rfl
      rw [e]
      exact playOnBoard_bad s A 1 c wx hs hg (by omega)
    · have G := good_R hg
      have e : mbOk (byt s) f t = boC (spl (byt s)) ((spl (byt s)).headD []).length f t := by unfold mbOk; rw [hg]; rfl
      rw [e]
      refine playOnBoard_good s [(f, t)] A c ((spl (byt s)).headD []).length (spl (byt s)).flatten.length (spl (byt s)).flatten (mbR (spl (byt s)) ((spl (byt s)).headD []).length f t) _ wx hs hg (by simp) hat rfl rfl rfl ?_ ?_ G.hw.1 G.hw.2 (by rw [mbR_len]; exact G.hh.1) (by rw [mbR_len]; exact G.hh.2) (mbR_rows G.hl f t)
      · intro wy g cap h1 h2 h3 h4
        refine (playAllB_any _ _ [(f, t)] _ _ (mk1_ok G f t) _ (fun _ => rfl) g cap A c wy h1 h2 h3 h4 (by simp)).mono ?_
        intro e w' h
        rw [play1] at h
        cases hb : boC (spl (byt s)) ((spl (byt s)).headD []).length f t
        · rw [hb] at h
          simpa [PaO] using h
        · obtain ⟨F, T, rfl, rfl, hF, hT⟩ := boC_in G hb
          rw [hb] at h
          rw [mbR_flat G hF hT (boC_ne G hF hT hb)]
          simpa [PaO] using h
      · rw [mbR_len]; exact flat_eq _ _ G.hl
  unfold tbV at HP ⊢
  generalize (if mbOk (byt s) f t then mbT (byt s) f t else []) = L at HP ⊢
  generalize mbOk (byt s) f t = b at HP ⊢
  go_enter Tryd.func25, Tryd.ntmps25
  go_wp2_with fail
  have y1 : (w.alloc (Obj.cells #[.int .i64 f, .int .i64 t] 46)).heap.size = w.heap.size + 1 := by simp
  have hb1 : Below w.heap.size w ((w.alloc (Obj.cells #[.int .i64 f, .int .i64 t] 46)).alloc (Obj.cells #[.int .i64 f, .int .i64 t] 46)) := ((Below.refl _ _).alloc (Nat.le_refl _) _).alloc (by simp) _
  refine (HP.out _ _ _ (fun k hk => by
    obtain rfl : k = 0 := by simpa using hk
    exact ⟨_, rfl, by simp, by rw [← y1, World.cell?_alloc_new]; rfl, by rw [← y1, World.cell?_alloc_new]; rfl⟩)).mono ?_
  rintro e w2 ⟨rfl, hb2⟩
  have HB2 := Lib.hid (hb1.trans (hb2.mono hb1.size))
  clear hb1 hb2 y1
  go_wp2_with fail
  go_ret2
  exact ⟨rfl, HB2.out⟩
end Go.Proofs.YtjnidfleccbdbaaDoor
namespace Go.Proofs.YtjnidfleccbdbaaDoor
open Go.RowKit

set_option maxRecDepth 100000 in
set_option maxHeartbeats 2000000 in
theorem walk_FnExactMakeOnBoard (s : ByteArray) (hs : s.size ≤ maxLen) (f t : Int) (_ : (Lit.int .i64 f).wf = true) (_ : (Lit.int .i64 t).wf = true) (w : World) :
    Calls Tryd.prog 6 #[.string s, .agg #[.int .i64 f, .int .i64 t]] w fun e w' => e = .returned (.bool true) ∧ Below w.heap.size w w' := by
  by_cases hbig : (1048576 : Int) < (s.size : Int)
  · go_enter Tryd.func6, Tryd.ntmps6
    go_wp2
    go_ret
    exact ⟨rfl, (Below.refl _ _).alloc (Nat.le_refl _) _⟩
  · have HS := Lib.hid (fun wx => sMakeOnBoard_any s f t wx hs)
    have HM := Lib.hid (fun wx => MakeOnB_any s f t wx (by omega))
    unfold tbV at HM
    generalize (if mbOk (byt s) f t then mbT (byt s) f t else []) = L at HS HM
    generalize mbOk (byt s) f t = b at HS HM
    generalize str L = z at HS HM
    obtain ⟨W0, hW0⟩ : ∃ W0, W0 = w.alloc (Obj.cells #[.int .i64 f, .int .i64 t] 44) := ⟨_, rfl⟩
    have hb0 : Below w.heap.size w W0 := by rw [hW0]; exact (Below.refl _ _).alloc (Nat.le_refl _) _
    have k0 : W0.cell? ⟨w.heap.size, 0, none⟩ = some (.int .i64 f) := by rw [hW0, World.cell?_alloc_new]; rfl
    have k1 : W0.cell? ⟨w.heap.size, 1, none⟩ = some (.int .i64 t) := by rw [hW0, World.cell?_alloc_new]; rfl
    have hz0 : w.heap.size < W0.heap.size := by rw [hW0]; simp
    go_enter Tryd.func6, Tryd.ntmps6
    go_wp2_with fail
    rw [← hW0]
    clear hW0
    refine (toMove_any _ _ _).mono ?_
    rintro e w1 ⟨rfl, hb1⟩
    have d0 := ((bcell hb1).1 _ 0 hz0).trans k0
    have d1 := ((bcell hb1).1 _ 1 hz0).trans k1
    have hz1 := Nat.lt_of_lt_of_le hz0 hb1.size
    have HB1 := Lib.hid (hb0.trans (hb1.mono hb0.size))
    clear hb0 hb1 k0 k1
    go_wp2_with fail
    refine (HS.out _).mono ?_
    rintro e w2 ⟨rfl, hb2⟩
    have e0 := ((bcell hb2).1 _ 0 hz1).trans d0
    have e1 := ((bcell hb2).1 _ 1 hz1).trans d1
    have hz2 := Nat.lt_of_lt_of_le hz1 hb2.size
    have HB2 := Lib.hid (HB1.out.trans (hb2.mono HB1.out.size))
    clear hb2 d0 d1
    go_wp2_with fail
    refine (toMove_any _ _ _).mono ?_
    rintro e w3 ⟨rfl, hb3⟩
    have HB3 := Lib.hid (HB2.out.trans (hb3.mono HB2.out.size))
    clear hb3 e0 e1
    go_wp2_with fail
    refine (HM.out _).mono ?_
    rintro e w4 ⟨rfl, hb4⟩
    have HB4 := Lib.hid (HB3.out.trans (hb4.mono HB3.out.size))
    clear hb4
    go_wp2
    go_ret
    exact ⟨rfl, HB4.out⟩
end Go.Proofs.YtjnidfleccbdbaaDoor
