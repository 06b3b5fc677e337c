/- Contracts: moves made one after the other on a board. -/
import Derived.Test.YtoiaklnaecghnabGreatDoorBdBh
import Derived.Test.YtoiaklnaecghnabGreatDoorBdEt
namespace Go.Proofs.YtoiaklnaecghnabGreatDoor
open Go.RowKit

/-- The cells behind the moves that can be made, and how many they are. -/
def playF (mk : List UInt8 → Int → Int → Option (List UInt8)) : List UInt8 → List (Int × Int) → List UInt8 × Nat
  | s, [] => (s, 0)
  | s, p :: r => match mk s p.1 p.2 with
    | some s' => ((playF mk s' r).1, (playF mk s' r).2 + 1)
    | none => (s, 0)
theorem playF_le (mk : List UInt8 → Int → Int → Option (List UInt8)) : ∀ (l : List (Int × Int)) (s : List UInt8), (playF mk s l).2 ≤ l.length
  | [], s => Nat.le_refl _
  | p :: r, s => by
    unfold playF
    cases h : mk s p.1 p.2 with
    | none => simp
    | some s' => have := playF_le mk r s'; simp; omega
theorem playF_step (mk : List UInt8 → Int → Int → Option (List UInt8)) (s s' : List UInt8) (l : List (Int × Int)) (k : Nat) (h : k < l.length) (hc : mk s l[k].1 l[k].2 = some s') :
    playF mk s (l.drop k) = ((playF mk s' (l.drop (k + 1))).1, (playF mk s' (l.drop (k + 1))).2 + 1) := by
  rw [List.drop_eq_getElem_cons h, playF, hc]
theorem playF_stop (mk : List UInt8 → Int → Int → Option (List UInt8)) (s : List UInt8) (l : List (Int × Int)) (k : Nat) (h : k < l.length) (hc : mk s l[k].1 l[k].2 = none) : playF mk s (l.drop k) = (s, 0) := by
  rw [List.drop_eq_getElem_cons h, playF, hc]
/-- What board.behind answers where it fails. -/
def BhN (w : World) (e : Ending) (w' : World) : Prop := e = .returned (.tuple #[.agg #[.int .i64 0, .slice none 0 0], .bool false]) ∧ Below w.heap.size w w'
def BhO (w : World) (wd n : Nat) (o : Option (List UInt8)) (e : Ending) (w' : World) : Prop := match o with
  | some F => BhY w wd n F e w'
  | none => BhN w e w'
/-- What making one move answers, at each of the moves. -/
structure MkB2 (wd n : Nat) (l : List (Int × Int)) (mk : List UInt8 → Int → Int → Option (List UInt8)) (Inv : Nat → List UInt8 → Prop) : Prop where
  call : ∀ (k : Nat) (hk : k < l.length) (F : List UInt8), Inv k F → ∀ g cap wx, n ≤ cap → g < wx.heap.size → BsAt wx g F →
    Calls Tryz.prog 18 #[.agg #[.int .i64 wd, .slice (some ⟨g, 0, none⟩) n cap], .agg #[.int .i64 l[k].1, .int .i64 l[k].2]] wx (BhO wx wd n (mk F l[k].1 l[k].2))
  keep : ∀ (k : Nat) (hk : k < l.length) (F F' : List UInt8), Inv k F → mk F l[k].1 l[k].2 = some F' → Inv (k + 1) F'
/-- The board behind the moves that can be made, and how many they are. -/
def PlB (w : World) (g0 wd n : Nat) (r : List UInt8 × Nat) (e : Ending) (w' : World) : Prop :=
  ∃ g cap, e = .returned (.tuple #[.agg #[.int .i64 wd, .slice (some ⟨g, 0, none⟩) n cap], .int .i64 r.2]) ∧ n ≤ cap ∧ g < w'.heap.size ∧ BsAt w' g r.1 ∧ Below w.heap.size w w' ∧ (g = g0 ∨ w.heap.size ≤ g)
/-- Between two moves: the board in its box. -/
structure LnB (w : World) (g0 : Nat) (wd n : Nat) (F : List UInt8) (g cap : Nat) (wr : World) : Prop where
  hcap : n ≤ cap
  lt : g < wr.heap.size
  bs : BsAt wr g F
  l0 : wr.cell? ⟨w.heap.size, 0, none⟩ = some (.int .i64 wd)
  l1 : wr.cell? ⟨w.heap.size, 1, none⟩ = some (.slice (some ⟨g, 0, none⟩) n cap)
  r0 : wr.cell? ⟨w.heap.size + 1, 0, none⟩ = some (.int .i64 0)
  r1 : wr.cell? ⟨w.heap.size + 1, 1, none⟩ = some (.slice none 0 0)
  f0 : ∀ b o, b < w.heap.size + 2 → w.heap.size ≤ b → wr.frozen? ⟨b, o, none⟩ = false
  sz : w.heap.size + 1 < wr.heap.size
  ne : (g = g0 ∨ w.heap.size + 1 < g) ∧ g0 < w.heap.size
  bel : Below w.heap.size w wr
theorem LnB.keep {w wr w' : World} {g0 wd n : Nat} {F : List UInt8} {g cap : Nat} (h : LnB w g0 wd n F g cap wr) (hb : Below wr.heap.size wr w') : LnB w g0 wd n F g cap w' := by
  have h0 : w.heap.size < wr.heap.size := Nat.lt_trans (Nat.lt_succ_self _) h.sz
  refine ⟨h.hcap, Nat.lt_of_lt_of_le h.lt hb.size, h.bs.below h.lt hb, ?_, ?_, ?_, ?_, ?_, Nat.lt_of_lt_of_le h.sz hb.size, h.ne, h.bel.trans (hb.mono h.bel.size)⟩
  · exact (hb.cell (p := ⟨_, 0, none⟩) h0).trans h.l0
  · exact (hb.cell (p := ⟨_, 1, none⟩) h0).trans h.l1
  · exact (hb.cell (p := ⟨_, 0, none⟩) h.sz).trans h.r0
  · exact (hb.cell (p := ⟨_, 1, none⟩) h.sz).trans h.r1
  · intro b o h1 h2
    exact (hb.frozen (p := ⟨b, o, none⟩) (show b < wr.heap.size by have := h.sz; omega)).trans (h.f0 b o h1 h2)
theorem LnB.next {w wr : World} {g0 wd n : Nat} {F F' : List UInt8} {g cap g2 cap2 : Nat} (h : LnB w g0 wd n F g cap wr) (hc : n ≤ cap2) (hl : g2 < wr.heap.size) (hb : BsAt wr g2 F') (h1 : w.heap.size + 1 < g2) :
    LnB w g0 wd n F' g2 cap2 ((wr.setCell ⟨w.heap.size, 0, none⟩ (.int .i64 wd)).setCell ⟨w.heap.size, 1, none⟩ (.slice (some ⟨g2, 0, none⟩) n cap2)) := by
  have hz : w.heap.size ≠ w.heap.size + 1 := by omega
  refine ⟨hc, by simpa using hl, ?_, ?_, ?_, ?_, ?_, ?_, by simpa using h.sz, ⟨.inr h1, h.ne.2⟩, (h.bel.setCell (Nat.le_refl _) _).setCell (Nat.le_refl _) _⟩
  · intro j hj
    rw [World.cell?_setCell_other _ _ _ _ (by intro e; injection e with e _; omega), World.cell?_setCell_other _ _ _ _ (by intro e; injection e with e _; omega)]
    exact hb j hj
  · rw [World.cell?_setCell_other _ _ _ _ (by intro e; injection e with _ e; omega)]; exact World.cell?_setCell_same _ _ _ h.l0
  · exact World.cell?_setCell_same _ _ _ (by rw [World.cell?_setCell_other _ _ _ _ (by intro e; injection e with _ e; omega)]; exact h.l1)
  · rw [World.cell?_setCell_other _ _ _ _ (by intro e; injection e with e _; omega), World.cell?_setCell_other _ _ _ _ (by intro e; injection e with e _; omega)]; exact h.r0
  · rw [World.cell?_setCell_other _ _ _ _ (by intro e; injection e with e _; omega), World.cell?_setCell_other _ _ _ _ (by intro e; injection e with e _; omega)]; exact h.r1
  · intro b o q1 q2
    rw [World.frozen?_setCell, World.frozen?_setCell]
    exact h.f0 b o q1 q2
theorem results_bo6 (tmps : Array Value) (w : World) (g : Nat) (x y : Value) (hp : tmps.getD 6 undef = .pointer (some ⟨g, 0, none⟩)) (c0 : w.cell? ⟨g, 0, none⟩ = some x) (c1 : w.cell? ⟨g, 1, none⟩ = some y) :
    (results Tryz.f29 tmps).run Tryz.prog w = .ok (.tuple #[.agg #[x, y], tmps.getD 7 undef]) w := by
  have hr : Tryz.f29.results = #[.cell 6 44, .tmp 7] := rfl
  unfold results
  rw [hr]
  simp at hp
  simp [hp, asAddr, c0, c1, go_sem]
set_option maxRecDepth 100000 in
set_option maxHeartbeats 4000000 in
theorem playOnB_any (wd n : Nat) (l : List (Int × Int)) (mk : List UInt8 → Int → Int → Option (List UInt8)) (Inv : Nat → List UInt8 → Prop) (hmk : MkB2 wd n l mk Inv) (F0 : List UInt8) (h0 : Inv 0 F0) (g0 cap0 : Nat) (A : Option Addr) (c : Nat) (w : World)
    (hc0 : n ≤ cap0) (hg0 : g0 < w.heap.size) (hb0 : BsAt w g0 F0) (hat : MvAt w A l) (hl : l.length ≤ 1000) :
    Calls Tryz.prog 29 #[.agg #[.int .i64 wd, .slice (some ⟨g0, 0, none⟩) n cap0], .slice A l.length c, .func (.func 18) #[] #[]] w (PlB w g0 wd n (playF mk F0 l)) := by
  have HN := Lib.hid hat
  have HI0 := Lib.hid h0
  have HMK := Lib.hid hmk
  have HBS := Lib.hid hb0
  clear hat h0 hmk hb0
  go_enter Tryz.func29, Tryz.ntmps29
  go_wp2_with fail
  go_loopw [8, 9, 10, 11, 14] (fun _ _ _ _ i wr => ∃ (k g cap : Nat) (F : List UInt8), k ≤ l.length ∧ i = .int .i64 k ∧ Hid (Inv k F) ∧ Hid (playF mk F0 l = ((playF mk F (l.drop k)).1, (playF mk F (l.drop k)).2 + k)) ∧ Hid (LnB w g0 wd n F g cap wr)) (fun _ _ _ _ i _ => l.length - (intOf i).toNat)
  case atStart =>
    refine ⟨0, g0, cap0, F0, Nat.zero_le _, rfl, HI0, by show _ = _; simp, Lib.hid ?_⟩
    have y1 : (w.alloc (Obj.cells #[.int .i64 wd, .slice (some ⟨g0, 0, none⟩) n cap0] 44)).heap.size = w.heap.size + 1 := by simp
    have hB : Below w.heap.size w ((w.alloc (Obj.cells #[.int .i64 wd, .slice (some ⟨g0, 0, none⟩) n cap0] 44)).alloc (Obj.cells #[.int .i64 0, .slice none 0 0] 44)) := ((Below.refl _ _).alloc (Nat.le_refl _) _).alloc (by simp) _
    refine ⟨hc0, by simp; omega, HBS.out.below hg0 hB, ?_, ?_, ?_, ?_, ?_, by simp, ⟨.inl rfl, hg0⟩, hB⟩
    · rw [World.cell?_alloc_old _ _ _ (by simp), World.cell?_alloc_new]; rfl
    · rw [World.cell?_alloc_old _ _ _ (by simp), World.cell?_alloc_new]; rfl
    · rw [← y1, World.cell?_alloc_new]; rfl
    · rw [← y1, World.cell?_alloc_new]; rfl
    · intro b o h1 h2
      rcases (show b = w.heap.size ∨ b = w.heap.size + 1 by omega) with rfl | rfl
      · simp
      · rw [← y1]; exact frz_new8 _ _ _ _
  case round =>
    obtain ⟨k, g, cap, F, hk, rfl, HI, hP, hL⟩ := hrel
    by_cases hlt : k < l.length
    · obtain ⟨gm, rfl, hgm, c0, c1⟩ := HN.out k hlt
      have i1 : (0 : Int) ≤ (k : Int) := by omega
      have i2 : (k : Int) < (l.length : Int) := by omega
      have d0 := (hL.out.bel.cell (p := ⟨gm, k * 2, none⟩) hgm).trans c0
      have d1 := (hL.out.bel.cell (p := ⟨gm, k * 2 + 1, none⟩) hgm).trans c1
      have hsz0 : w.heap.size < wr.heap.size := Nat.lt_trans (Nat.lt_succ_self _) hL.out.sz
      have hl0 := hL.out.l0
      have hl1 := hL.out.l1
      have HC := Lib.hid (HMK.out.call k hlt F HI.out g cap)
      have HK := Lib.hid (fun F' => HMK.out.keep k hlt F F' HI.out)
      have hstep := Lib.hid (fun s' => playF_step mk F s' l k hlt)
      have hstop := Lib.hid (playF_stop mk F l k hlt)
      generalize l[k].1 = a at d0 HC HK hstep hstop
      generalize l[k].2 = b at d1 HC HK hstep hstop
      clear c0 c1
      go_wp2_with fail
      have hbA : Below wr.heap.size wr (wr.alloc (Obj.cells #[.int .i64 a, .int .i64 b] 39)) := (Below.refl _ _).alloc (Nat.le_refl _) _
      refine (HC.out _ hL.out.hcap (Nat.lt_of_lt_of_le hL.out.lt hbA.size) (hL.out.bs.below hL.out.lt hbA)).mono ?_
      rintro e w2 h2
      clear d0 d1 hl0 hl1
      cases hc : mk F a b with
      | none =>
        rw [hc] at h2
        obtain ⟨rfl, hb2⟩ := h2
        have hR : Hid (playF mk F0 l = (F, k)) := by show _ = _; rw [hP.out, hstop.out hc]; simp
        have hL2 := Lib.hid (hL.out.keep (hbA.trans (hb2.mono hbA.size)))
        have e0 := hL2.out.l0
        have e1 := hL2.out.l1
        have e2 := hL2.out.r0
        have e3 := hL2.out.r1
        have e4 := hL2.out.f0 (w.heap.size + 1) 0 (by omega) (by omega)
        have e5 := hL2.out.f0 (w.heap.size + 1) 1 (by omega) (by omega)
        have hsz2 := hL2.out.sz
        have hsz3 : w.heap.size < w2.heap.size := by omega
        clear hc hb2 hbA HC HK hstep hstop hP
        go_wp2_with fail
        (try simp only [Exit.inBlock, Exit.then])
        refine bodyPost_ret (results_bo6 _ _ (w.heap.size + 1) (.int .i64 wd) (.slice (some ⟨g, 0, none⟩) n cap) rfl ?_ ?_) rfl ⟨g, cap, by rw [hR.out]; rfl, hL2.out.hcap, ?_, ?_, ?_, ?_⟩
        · rw [World.cell?_alloc_old _ _ _ (by simp; omega)]; rw [World.cell?_setCell_other _ _ _ _ (by intro e; injection e with _ e; omega)]; exact World.cell?_setCell_same _ _ _ e2
        · rw [World.cell?_alloc_old _ _ _ (by simp; omega)]; exact World.cell?_setCell_same _ _ _ (by rw [World.cell?_setCell_other _ _ _ _ (by intro e; injection e with _ e; omega)]; exact e3)
        · simp; have := hL2.out.lt; omega
        · rw [hR.out]
          intro j hj
          rw [World.cell?_alloc_old _ _ _ (by have := hL2.out.lt; simp; omega)]; rw [World.cell?_setCell_other _ _ _ _ (by intro e; injection e with e _; have := hL2.out.ne; omega), World.cell?_setCell_other _ _ _ _ (by intro e; injection e with e _; have := hL2.out.ne; omega)]
          exact hL2.out.bs j hj
        · exact ((hL2.out.bel.setCell (show w.heap.size ≤ w.heap.size + 1 by omega) _).setCell (show w.heap.size ≤ w.heap.size + 1 by omega) _).alloc (by simp; omega) _
        · have := hL2.out.ne; omega
      | some F' =>
        rw [hc] at h2
        obtain ⟨g2, cap2, rfl, q1, q2, q3, q4, hb2⟩ := h2
        have HI2 := Lib.hid (HK.out F' hc)
        have hR : Hid (playF mk F0 l = ((playF mk F' (l.drop (k + 1))).1, (playF mk F' (l.drop (k + 1))).2 + (k + 1))) := by
          show _ = _
          rw [hP.out, hstep.out F' hc, Nat.add_assoc, Nat.add_comm 1 k]
        have hL2 := Lib.hid (hL.out.keep (hbA.trans (hb2.mono hbA.size)))
        have hgn : w.heap.size + 1 < g2 := Nat.lt_of_lt_of_le hL.out.sz (Nat.le_trans hbA.size q1)
        have e0 := hL2.out.l0
        have e1 := hL2.out.l1
        have e4 := hL2.out.f0 w.heap.size 0 (by omega) (by omega)
        have e5 := hL2.out.f0 w.heap.size 1 (by omega) (by omega)
        have hsz2 := hL2.out.sz
        have hsz3 : w.heap.size < w2.heap.size := by omega
        have HQ4 := Lib.hid q4
        clear hc hb2 hbA HC HK hstep hstop hP q4
        go_wp2_with fail
        exact ⟨⟨k + 1, g2, cap2, F', by omega, by go_num, HI2, hR, Lib.hid ((hL2.out.next q3 q2 HQ4.out hgn).keep ((Below.refl _ _).alloc (Nat.le_refl _) _))⟩, by simp [intOf]; omega⟩
    · obtain rfl : k = l.length := by omega
      have hR : Hid (playF mk F0 l = (F, l.length)) := by show _ = _; rw [hP.out, List.drop_length]; simp [playF]
      have e0 := hL.out.l0
      have e1 := hL.out.l1
      have e2 := hL.out.r0
      have e3 := hL.out.r1
      have e4 := hL.out.f0 (w.heap.size + 1) 0 (by omega) (by omega)
      have e5 := hL.out.f0 (w.heap.size + 1) 1 (by omega) (by omega)
      have hsz2 := hL.out.sz
      go_wp2_with fail
      (try simp only [Exit.inBlock, Exit.then])
      refine bodyPost_ret (results_bo6 _ _ (w.heap.size + 1) (.int .i64 wd) (.slice (some ⟨g, 0, none⟩) n cap) rfl ?_ ?_) rfl ⟨g, cap, by rw [hR.out]; rfl, hL.out.hcap, ?_, ?_, ?_, ?_⟩
      · rw [World.cell?_setCell_other _ _ _ _ (by intro e; injection e with _ e; omega)]; exact World.cell?_setCell_same _ _ _ e2
      · exact World.cell?_setCell_same _ _ _ (by rw [World.cell?_setCell_other _ _ _ _ (by intro e; injection e with _ e; omega)]; exact e3)
      · simp; have := hL.out.lt; omega
      · rw [hR.out]
        intro j hj
        rw [World.cell?_setCell_other _ _ _ _ (by intro e; injection e with e _; have := hL.out.ne; omega), World.cell?_setCell_other _ _ _ _ (by intro e; injection e with e _; have := hL.out.ne; omega)]
        exact hL.out.bs j hj
      · exact (hL.out.bel.setCell (show w.heap.size ≤ w.heap.size + 1 by omega) _).setCell (show w.heap.size ≤ w.heap.size + 1 by omega) _
      · have := hL.out.ne; omega
end Go.Proofs.YtoiaklnaecghnabGreatDoor
namespace Go.Proofs.YtoiaklnaecghnabGreatDoor
open Go.RowKit

theorem results_boA (tmps : Array Value) (w : World) (g : Nat) (x y : Value) (hp : tmps.getD 6 undef = .pointer (some ⟨g, 0, none⟩)) (c0 : w.cell? ⟨g, 0, none⟩ = some x) (c1 : w.cell? ⟨g, 1, none⟩ = some y) :
    (results Tryz.f17 tmps).run Tryz.prog w = .ok (.tuple #[.agg #[x, y], tmps.getD 7 undef]) w := by
  have hr : Tryz.f17.results = #[.cell 6 44, .tmp 7] := rfl
  unfold results
  rw [hr]
  simp at hp
  simp [hp, asAddr, c0, c1, go_sem]
/-- The board behind all moves. -/
def PaY (w : World) (wd n : Nat) (F : List UInt8) (e : Ending) (w' : World) : Prop :=
  ∃ g cap, e = .returned (.tuple #[.agg #[.int .i64 wd, .slice (some ⟨g, 0, none⟩) n cap], .bool true]) ∧ n ≤ cap ∧ g < w'.heap.size ∧ BsAt w' g F ∧ Below w.heap.size w w'
def PaO (w : World) (wd n : Nat) (r : List UInt8 × Nat) (k : Nat) (e : Ending) (w' : World) : Prop := if r.2 = k then PaY w wd n r.1 e w' else BhN w e w'
set_option maxRecDepth 100000 in
set_option maxHeartbeats 4000000 in
theorem playAllB_any (wd n : Nat) (l : List (Int × Int)) (mk : List UInt8 → Int → Int → Option (List UInt8)) (Inv : Nat → List UInt8 → Prop) (hmk : MkB2 wd n l mk Inv) (F0 : List UInt8) (h0 : Inv 0 F0) (g0 cap0 : Nat) (A : Option Addr) (c : Nat) (w : World)
    (hc0 : n ≤ cap0) (hg0 : g0 < w.heap.size) (hb0 : BsAt w g0 F0) (hat : MvAt w A l) (hl : l.length ≤ 1000) :
    Calls Tryz.prog 17 #[.agg #[.int .i64 wd, .slice (some ⟨g0, 0, none⟩) n cap0], .slice A l.length c, .func (.func 18) #[] #[]] w (PaO w wd n (playF mk F0 l) l.length) := by
  have HC := Lib.hid (fun wx (hb : Below w.heap.size w wx) => playOnB_any wd n l mk Inv hmk F0 h0 g0 cap0 A c wx hc0 (Nat.lt_of_lt_of_le hg0 hb.size) (hb0.below hg0 hb) (hat.below hb) hl)
  have hle := playF_le mk l F0
  clear hmk h0 hb0 hat hl
  obtain ⟨W0, hW0⟩ : ∃ W0, W0 = (w.alloc (Obj.cells #[.int .i64 wd, .slice (some ⟨g0, 0, none⟩) n cap0] 44)).alloc (Obj.cells #[.int .i64 0, .slice none 0 0] 44) := ⟨_, rfl⟩
  have y1 : (w.alloc (Obj.cells #[.int .i64 wd, .slice (some ⟨g0, 0, none⟩) n cap0] 44)).heap.size = w.heap.size + 1 := by simp
  have hB : Below w.heap.size w W0 := by rw [hW0]; exact ((Below.refl _ _).alloc (Nat.le_refl _) _).alloc (by simp) _
  have p0 : W0.cell? ⟨w.heap.size + 1, 0, none⟩ = some (.int .i64 0) := by rw [hW0, ← y1, World.cell?_alloc_new]; rfl
  have p1 : W0.cell? ⟨w.heap.size + 1, 1, none⟩ = some (.slice none 0 0) := by rw [hW0, ← y1, World.cell?_alloc_new]; rfl
  have q0 : W0.frozen? ⟨w.heap.size + 1, 0, none⟩ = false := by rw [hW0, ← y1]; exact frz_new8 _ _ _ _
  have q1 : W0.frozen? ⟨w.heap.size + 1, 1, none⟩ = false := by rw [hW0, ← y1]; exact frz_new8 _ _ _ _
  have z0 : w.heap.size + 1 < W0.heap.size := by rw [hW0]; simp
  have HC0 := Lib.hid (HC.out W0 hB)
  have HB := Lib.hid hB
  clear y1 hB HC
  generalize playF mk F0 l = r at HC0 hle ⊢
  by_cases he : r.2 = l.length
  · have hlt : ¬ ((r.2 : Int) < (l.length : Int)) := by omega
    have hP : PaO w wd n r l.length = PaY w wd n r.1 := by funext e w'; unfold PaO; rw [if_pos he]
    rw [hP]
    clear he hP
    go_enter Tryz.func17, Tryz.ntmps17
    go_wp2_with fail
    rw [← hW0]
    clear hW0
    refine HC0.out.mono ?_
    rintro e w1 ⟨g, cap, rfl, a1, a2, a3, hb1, hgg⟩
    have hne : g ≠ w.heap.size + 1 := by omega
    have e2 := (hb1.cell (p := ⟨w.heap.size + 1, 0, none⟩) z0).trans p0
    have e3 := (hb1.cell (p := ⟨w.heap.size + 1, 1, none⟩) z0).trans p1
    have e4 := (hb1.frozen (p := ⟨w.heap.size + 1, 0, none⟩) z0).trans q0
    have e5 := (hb1.frozen (p := ⟨w.heap.size + 1, 1, none⟩) z0).trans q1
    have z1 := Nat.lt_of_lt_of_le z0 hb1.size
    have z2 : w.heap.size < w1.heap.size := Nat.lt_trans (Nat.lt_succ_self _) z1
    have z3 : w.heap.size + 1 < w1.heap.size + 1 := Nat.succ_lt_succ z2
    have HB1 := Lib.hid (HB.out.trans (hb1.mono HB.out.size))
    have HA3 := Lib.hid a3
    clear hb1 p0 p1 q0 q1 a3
    go_wp2_with fail
    (try simp only [Exit.inBlock, Exit.then])
    refine bodyPost_ret (results_boA _ _ (w.heap.size + 1) (.int .i64 wd) (.slice (some ⟨g, 0, none⟩) n cap) rfl ?_ ?_) rfl ⟨g, cap, rfl, a1, ?_, ?_, ?_⟩
    · rw [World.cell?_alloc_old _ _ _ (by simp; omega), World.cell?_setCell_other _ _ _ _ (by intro e; injection e with _ e; omega)]; exact World.cell?_setCell_same _ _ _ e2
    · rw [World.cell?_alloc_old _ _ _ (by simp; omega)]; exact World.cell?_setCell_same _ _ _ (by rw [World.cell?_setCell_other _ _ _ _ (by intro e; injection e with _ e; omega)]; exact e3)
    · simp; omega
    · intro j hj
      rw [World.cell?_alloc_old _ _ _ (by simp; omega), World.cell?_setCell_other _ _ _ _ (by intro e; injection e with e _; omega), World.cell?_setCell_other _ _ _ _ (by intro e; injection e with e _; omega)]
      exact HA3.out j hj
    · exact ((HB1.out.setCell (show w.heap.size ≤ w.heap.size + 1 by omega) _).setCell (show w.heap.size ≤ w.heap.size + 1 by omega) _).alloc (by simp; omega) _
  · have hlt : ((r.2 : Int) < (l.length : Int)) := by omega
    have hP : PaO w wd n r l.length = BhN w := by funext e w'; unfold PaO; rw [if_neg he]
    rw [hP]
    clear he hP
    go_enter Tryz.func17, Tryz.ntmps17
    go_wp2_with fail
    rw [← hW0]
    clear hW0
    refine HC0.out.mono ?_
    rintro e w1 ⟨g, cap, rfl, a1, a2, a3, hb1, hgg⟩
    have hne : g ≠ w.heap.size + 1 := by omega
    have e2 := (hb1.cell (p := ⟨w.heap.size + 1, 0, none⟩) z0).trans p0
    have e3 := (hb1.cell (p := ⟨w.heap.size + 1, 1, none⟩) z0).trans p1
    have e4 := (hb1.frozen (p := ⟨w.heap.size + 1, 0, none⟩) z0).trans q0
    have e5 := (hb1.frozen (p := ⟨w.heap.size + 1, 1, none⟩) z0).trans q1
    have z1 := Nat.lt_of_lt_of_le z0 hb1.size
    have z2 : w.heap.size < w1.heap.size := Nat.lt_trans (Nat.lt_succ_self _) z1
    have z3 : w.heap.size + 1 < w1.heap.size + 1 := Nat.succ_lt_succ z2
    have HB1 := Lib.hid (HB.out.trans (hb1.mono HB.out.size))
    have HA3 := Lib.hid a3
    clear hb1 p0 p1 q0 q1 a3
    go_wp2_with fail
    (try simp only [Exit.inBlock, Exit.then])
    refine bodyPost_ret (results_boA _ _ (w.heap.size + 1) (.int .i64 0) (.slice none 0 0) rfl ?_ ?_) rfl ⟨rfl, ?_⟩
    · rw [World.cell?_alloc_old _ _ _ (by simp; omega), World.cell?_alloc_old _ _ _ (by simp; omega), World.cell?_setCell_other _ _ _ _ (by intro e; injection e with _ e; omega)]; exact World.cell?_setCell_same _ _ _ e2
    · rw [World.cell?_alloc_old _ _ _ (by simp; omega), World.cell?_alloc_old _ _ _ (by simp; omega)]; exact World.cell?_setCell_same _ _ _ (by rw [World.cell?_setCell_other _ _ _ _ (by intro e; injection e with _ e; omega)]; exact e3)
    · exact (((HB1.out.setCell (show w.heap.size ≤ w.heap.size + 1 by omega) _).setCell (show w.heap.size ≤ w.heap.size + 1 by omega) _).alloc (by simp; omega) _).alloc (by simp; omega) _
end Go.Proofs.YtoiaklnaecghnabGreatDoor
namespace Go.Proofs.YtoiaklnaecghnabGreatDoor
open Go.RowKit

theorem results_boT (tmps : Array Value) (w : World) (g : Nat) (x y : Value) (hp : tmps.getD 4 undef = .pointer (some ⟨g, 0, none⟩)) (c0 : w.cell? ⟨g, 0, none⟩ = some x) (c1 : w.cell? ⟨g, 1, none⟩ = some y) :
    (results Tryz.f16 tmps).run Tryz.prog w = .ok (.tuple #[.agg #[x, y], tmps.getD 5 undef]) w := by
  have hr : Tryz.f16.results = #[.cell 4 44, .tmp 5] := rfl
  unfold results
  rw [hr]
  simp at hp
  simp [hp, asAddr, c0, c1, go_sem]
set_option maxRecDepth 100000 in
set_option maxHeartbeats 4000000 in
theorem boardToPlay_yes (s : ByteArray) (A : Option Addr) (n c : Nat) (w : World) (hs : s.size ≤ 2000000) (hg : goodB (byt s) = true) (hn : n ≤ 200) :
    Calls Tryz.prog 16 #[.string s, .slice A n c] w (BoY ((spl (byt s)).headD []).length (spl (byt s)).flatten w) := by
  have HR := Lib.hid (fun wx => boardOf_yes s wx hs hg)
  generalize ((spl (byt s)).headD []).length = wd at HR ⊢
  generalize (spl (byt s)).flatten = F at HR ⊢
  have hlt : ¬ ((200 : Int) < (n : Int)) := by omega
  clear hg
  obtain ⟨W0, hW0⟩ : ∃ W0, W0 = w.alloc (Obj.cells #[.int .i64 0, .slice none 0 0] 44) := ⟨_, rfl⟩
  have hB : Below w.heap.size w W0 := by rw [hW0]; exact (Below.refl _ _).alloc (Nat.le_refl _) _
  have p0 : W0.cell? ⟨w.heap.size, 0, none⟩ = some (.int .i64 0) := by rw [hW0, World.cell?_alloc_new]; rfl
  have p1 : W0.cell? ⟨w.heap.size, 1, none⟩ = some (.slice none 0 0) := by rw [hW0, World.cell?_alloc_new]; rfl
  have q0 : W0.frozen? ⟨w.heap.size, 0, none⟩ = false := by rw [hW0]; exact frz_new8 _ _ _ _
  have q1 : W0.frozen? ⟨w.heap.size, 1, none⟩ = false := by rw [hW0]; exact frz_new8 _ _ _ _
  have z0 : w.heap.size < W0.heap.size := by rw [hW0]; simp
  have HB := Lib.hid hB
  clear hB
  go_enter Tryz.func16, Tryz.ntmps16
  go_wp2_with fail
  rw [← hW0]
  clear hW0
  refine (HR.out _).mono ?_
  rintro e w1 ⟨g, cap, rfl, a0, a1, a2, a3, hb1⟩
  have e2 := (hb1.cell (p := ⟨w.heap.size, 0, none⟩) z0).trans p0
  have e3 := (hb1.cell (p := ⟨w.heap.size, 1, none⟩) z0).trans p1
  have e4 := (hb1.frozen (p := ⟨w.heap.size, 0, none⟩) z0).trans q0
  have e5 := (hb1.frozen (p := ⟨w.heap.size, 1, none⟩) z0).trans q1
  have z1 := Nat.lt_of_lt_of_le z0 hb1.size
  have HB1 := Lib.hid (HB.out.trans (hb1.mono HB.out.size))
  have HA3 := Lib.hid a3
  clear a3
  clear hb1 p0 p1 q0 q1
  go_wp2_with fail
  (try simp only [Exit.inBlock, Exit.then])
  refine bodyPost_ret (results_boT _ _ w.heap.size (.int .i64 wd) (.slice (some ⟨g, 0, none⟩) F.length cap) rfl ?_ ?_) rfl ⟨g, cap, rfl, by omega, by simpa using a1, a2, ?_, (HB1.out.setCell (Nat.le_refl _) _).setCell (Nat.le_refl _) _⟩
  · rw [World.cell?_setCell_other _ _ _ _ (by intro e; injection e with _ e; omega)]; exact World.cell?_setCell_same _ _ _ e2
  · exact World.cell?_setCell_same _ _ _ (by rw [World.cell?_setCell_other _ _ _ _ (by intro e; injection e with _ e; omega)]; exact e3)
  · intro j hj
    rw [World.cell?_setCell_other _ _ _ _ (by intro e; injection e with e _; omega), World.cell?_setCell_other _ _ _ _ (by intro e; injection e with e _; omega)]
    exact HA3.out j hj
set_option maxRecDepth 100000 in
set_option maxHeartbeats 4000000 in
theorem boardToPlay_no (s : ByteArray) (A : Option Addr) (n c : Nat) (w : World) (hs : s.size ≤ 2000000) (hg : goodB (byt s) = false) (hn : n ≤ 200) :
    Calls Tryz.prog 16 #[.string s, .slice A n c] w (BoN w) := by
  have HR := Lib.hid (fun wx => boardOf_no s wx hs hg)
  have hlt : ¬ ((200 : Int) < (n : Int)) := by omega
  clear hg
  obtain ⟨W0, hW0⟩ : ∃ W0, W0 = w.alloc (Obj.cells #[.int .i64 0, .slice none 0 0] 44) := ⟨_, rfl⟩
  have hB : Below w.heap.size w W0 := by rw [hW0]; exact (Below.refl _ _).alloc (Nat.le_refl _) _
  have p0 : W0.cell? ⟨w.heap.size, 0, none⟩ = some (.int .i64 0) := by rw [hW0, World.cell?_alloc_new]; rfl
  have p1 : W0.cell? ⟨w.heap.size, 1, none⟩ = some (.slice none 0 0) := by rw [hW0, World.cell?_alloc_new]; rfl
  have q0 : W0.frozen? ⟨w.heap.size, 0, none⟩ = false := by rw [hW0]; exact frz_new8 _ _ _ _
  have q1 : W0.frozen? ⟨w.heap.size, 1, none⟩ = false := by rw [hW0]; exact frz_new8 _ _ _ _
  have z0 : w.heap.size < W0.heap.size := by rw [hW0]; simp
  have HB := Lib.hid hB
  clear hB
  go_enter Tryz.func16, Tryz.ntmps16
  go_wp2_with fail
  rw [← hW0]
  clear hW0
  refine (HR.out _).mono ?_
  rintro e w1 ⟨rfl, hb1⟩
  have e2 := (hb1.cell (p := ⟨w.heap.size, 0, none⟩) z0).trans p0
  have e3 := (hb1.cell (p := ⟨w.heap.size, 1, none⟩) z0).trans p1
  have e4 := (hb1.frozen (p := ⟨w.heap.size, 0, none⟩) z0).trans q0
  have e5 := (hb1.frozen (p := ⟨w.heap.size, 1, none⟩) z0).trans q1
  have z1 := Nat.lt_of_lt_of_le z0 hb1.size
  have HB1 := Lib.hid (HB.out.trans (hb1.mono HB.out.size))
  clear hb1 p0 p1 q0 q1
  go_wp2_with fail
  (try simp only [Exit.inBlock, Exit.then])
  refine bodyPost_ret (results_boT _ _ w.heap.size (.int .i64 0) (.slice none 0 0) rfl ?_ ?_) rfl ⟨rfl, (HB1.out.setCell (Nat.le_refl _) _).setCell (Nat.le_refl _) _⟩
  · rw [World.cell?_setCell_other _ _ _ _ (by intro e; injection e with _ e; omega)]; exact World.cell?_setCell_same _ _ _ e2
  · exact World.cell?_setCell_same _ _ _ (by rw [World.cell?_setCell_other _ _ _ _ (by intro e; injection e with _ e; omega)]; exact e3)
end Go.Proofs.YtoiaklnaecghnabGreatDoor
namespace Go.Proofs.YtoiaklnaecghnabGreatDoor
open Go.RowKit

/-- What PlayOnBoard and MakeOnBoard answer. -/
def tbV (l : List UInt8) (b : Bool) : Value := .tuple #[.string (str l), .bool b]
set_option maxRecDepth 100000 in
set_option maxHeartbeats 4000000 in
theorem playOnBoard_bad (s : ByteArray) (A : Option Addr) (n c : Nat) (w : World) (hs : s.size ≤ 2000000) (hg : goodB (byt s) = false) (hn : n ≤ 200) :
    Calls Tryz.prog 8 #[.string s, .slice A n c] w fun e w' => e = .returned (tbV [] false) ∧ Below w.heap.size w w' := by
  have HR := Lib.hid (fun wx => boardToPlay_no s A n c wx hs hg hn)
  clear hg
  go_enter Tryz.func8, Tryz.ntmps8
  go_wp2_with fail
  refine (HR.out _).mono ?_
  rintro e w1 ⟨rfl, hb1⟩
  have HB1 := Lib.hid hb1
  clear hb1
  go_wp2_with fail
  go_ret2
  exact ⟨rfl, HB1.out.alloc HB1.out.size _⟩
set_option maxRecDepth 100000 in
set_option maxHeartbeats 4000000 in
theorem playOnBoard_good (s : ByteArray) (l : List (Int × Int)) (A : Option Addr) (c wd n : Nat) (F0 : List UInt8) (R' : List (List UInt8)) (b : Bool) (w : World) (hs : s.size ≤ 2000000) (hg : goodB (byt s) = true) (hl : l.length ≤ 200) (hat : MvAt w A l)
    (hwd : ((spl (byt s)).headD []).length = wd) (hF : (spl (byt s)).flatten = F0) (hn : F0.length = n) (hA : ∀ wx g cap, n ≤ cap → g < wx.heap.size → BsAt wx g F0 → MvAt wx A l → Calls Tryz.prog 17 #[.agg #[.int .i64 wd, .slice (some ⟨g, 0, none⟩) n cap], .slice A l.length c, .func (.func 18) #[] #[]] wx fun e w' => if b then PaY wx wd n R'.flatten e w' else BhN wx e w')
    (hnr : n = R'.length * wd) (h1 : 1 ≤ wd) (h5 : wd ≤ 5) (hh1 : 1 ≤ R'.length) (hh5 : R'.length ≤ 5) (hrl : ∀ r ∈ R', r.length = wd) :
    Calls Tryz.prog 8 #[.string s, .slice A l.length c] w fun e w' => e = .returned (tbV (if b then Lib.join R' [47] else []) b) ∧ Below w.heap.size w w' := by
  have HR := Lib.hid (fun wx => boardToPlay_yes s A l.length c wx hs hg hl)
  rw [hwd, hF] at HR
  have HAT := Lib.hid hat
  have HNR := Lib.hid hnr
  have HRL := Lib.hid hrl
  clear hg hat hwd hF hnr hrl
  cases b
  · simp only [Bool.false_eq_true, if_false] at hA
    have HA := Lib.hid hA
    clear hA
    go_enter Tryz.func8, Tryz.ntmps8
    go_wp2_with fail
    refine (HR.out _).mono ?_
    rintro e w1 ⟨g, cap, rfl, a0, a1, a2, a3, hb1⟩
    rw [hn] at a2 ⊢
    have hbA : Below w1.heap.size w1 (w1.alloc (Obj.cells #[.int .i64 wd, .slice (some ⟨g, 0, none⟩) n cap] 44)) := (Below.refl _ _).alloc (Nat.le_refl _) _
    have HA1 := Lib.hid ((HAT.out.below hb1).below hbA)
    have HB1 := Lib.hid hb1
    have HBA := Lib.hid hbA
    have HA3 := Lib.hid (a3.below a1 hbA)
    have HG := Lib.hid (Nat.lt_of_lt_of_le a1 hbA.size)
    clear hb1 a3 hbA
    go_wp2_with fail
    refine (HA.out _ g cap a2 HG.out HA3.out HA1.out).mono ?_
    rintro e w2 ⟨rfl, hb2⟩
    have HB2 := Lib.hid (HB1.out.trans ((HBA.out.trans (hb2.mono HBA.out.size)).mono HB1.out.size))
    clear hb2
    go_wp2_with fail
    go_ret2
    exact ⟨rfl, HB2.out.alloc HB2.out.size _⟩
  · simp only [if_true] at hA
    have HA := Lib.hid hA
    clear hA
    have HRW := Lib.hid (fun g cap hc wx => rowsB_any n g wd R'.length cap HNR.out h1 (by omega) hh1 (by omega) hc wx)
    have HTX := Lib.hid (fun g c wx hc h2 h3 => textOfRows_any R' g c wx hh1 hh5 (fun r hr => by rw [HRL.out r hr]; exact ⟨h1, h5⟩) hc h2 h3)
    go_enter Tryz.func8, Tryz.ntmps8
    go_wp2_with fail
    refine (HR.out _).mono ?_
    rintro e w1 ⟨g, cap, rfl, a0, a1, a2, a3, hb1⟩
    rw [hn] at a2 ⊢
    have hbA : Below w1.heap.size w1 (w1.alloc (Obj.cells #[.int .i64 wd, .slice (some ⟨g, 0, none⟩) n cap] 44)) := (Below.refl _ _).alloc (Nat.le_refl _) _
    have HA1 := Lib.hid ((HAT.out.below hb1).below hbA)
    have HB1 := Lib.hid hb1
    have HBA := Lib.hid hbA
    have HA3 := Lib.hid (a3.below a1 hbA)
    have HG := Lib.hid (Nat.lt_of_lt_of_le a1 hbA.size)
    clear hb1 a3 hbA
    go_wp2_with fail
    refine (HA.out _ g cap a2 HG.out HA3.out HA1.out).mono ?_
    rintro e w2 ⟨g2, cap2, rfl, c1, c2, c3, hb2⟩
    have HB2 := Lib.hid (HB1.out.trans ((HBA.out.trans (hb2.mono HBA.out.size)).mono HB1.out.size))
    have HC3 := Lib.hid c3
    clear hb2 c3
    go_wp2_with fail
    have hbB : Below w2.heap.size w2 (w2.alloc (Obj.cells #[.int .i64 wd, .slice (some ⟨g2, 0, none⟩) n cap2] 44)) := (Below.refl _ _).alloc (Nat.le_refl _) _
    refine (HRW.out g2 cap2 c1 _).mono ?_
    rintro e w3 ⟨g3, c3, rfl, r1, r2, r3, r4, hb3⟩
    have hg3 : g2 < w3.heap.size := Nat.lt_of_lt_of_le (Nat.lt_of_lt_of_le c2 hbB.size) hb3.size
    have hB3 : BsAt w3 g2 R'.flatten := (HC3.out.below c2 hbB).below (Nat.lt_of_lt_of_le c2 hbB.size) hb3
    have HP := Lib.hid (rows_pts HRL.out rfl hB3 hg3 r4)
    have HB3 := Lib.hid (HB2.out.trans ((hbB.trans (hb3.mono hbB.size)).mono HB2.out.size))
    clear hbB hb3 hB3 r4
    go_wp2_with fail
    refine (HTX.out g3 c3 _ r3 r2 HP.out).mono ?_
    rintro e w4 ⟨rfl, hb4⟩
    have HB4 := Lib.hid (HB3.out.trans (hb4.mono HB3.out.size))
    clear hb4
    go_wp2_with fail
    go_ret2
    exact ⟨rfl, HB4.out⟩
end Go.Proofs.YtoiaklnaecghnabGreatDoor
