/- Contracts: the move of a game: the program's turn. -/
import Derived.Test.YtflpncdnneapmaaBmE
import Derived.Laws.Rows
namespace Go.Proofs.Ytflpncdnneapmaa
open Go.RowKit Go.Maps Go.Shelf

/-- The move of a game, if there is one. -/
def gmvO (tm : Bool) (s : List UInt8) : Option (Int × Int) :=
  match bestM tm s with
  | m :: _ => some m
  | [] => (gmM tm s).head?
def gmvR (o : Option (Int × Int)) : Value := .tuple #[.agg #[.int .i64 (o.getD (0, 0)).1, .int .i64 (o.getD (0, 0)).2], .bool o.isSome]
theorem results_tg (tmps : Array Value) (w : World) (g : Nat) (x y : Value) (hp : tmps.getD 4 undef = .pointer (some ⟨g, 0, none⟩)) (c0 : w.cell? ⟨g, 0, none⟩ = some x) (c1 : w.cell? ⟨g, 1, none⟩ = some y) :
    (results Try.f41 tmps).run Try.prog w = .ok (.tuple #[.agg #[x, y], tmps.getD 5 undef]) w := by
  have hr : Try.f41.results = #[.cell 4 31, .tmp 5] := rfl
  unfold results
  rw [hr]
  simp at hp
  simp [hp, asAddr, c0, c1, go_sem]
theorem two_set {w : World} {g : Nat} {x y x0 y0 : Value} (h0 : w.cell? ⟨g, 0, none⟩ = some x0) (h1 : w.cell? ⟨g, 1, none⟩ = some y0) : ((w.setCell ⟨g, 0, none⟩ x).setCell ⟨g, 1, none⟩ y).cell? ⟨g, 0, none⟩ = some x ∧ ((w.setCell ⟨g, 0, none⟩ x).setCell ⟨g, 1, none⟩ y).cell? ⟨g, 1, none⟩ = some y := by
  refine ⟨?_, ?_⟩
  · rw [World.cell?_setCell_other _ _ _ _ (by intro e; injection e with _ e; omega)]
    exact World.cell?_setCell_same _ _ _ h0
  · refine World.cell?_setCell_same _ _ _ (u := y0) ?_
    rw [World.cell?_setCell_other _ _ _ _ (by intro e; injection e with _ e; omega)]
    exact h1
theorem KpN.set {B n g : Nat} {W W' : World} (h : KpN B n W W') (hg : n ≤ g) (o : Nat) (v : Value) : KpN B n W (W'.setCell ⟨g, o, none⟩ v) :=
  ⟨h.os, h.tape, h.output, by simpa using h.size, fun k h1 h2 h3 => (Below.heap_setCell _ _ _ k (by show k ≠ g; omega)).trans (h.far k h1 h2 h3)⟩
theorem KpN.then {B n : Nat} {a b c : World} (h : KpN B n a b) (hb : Below b.heap.size b c) : KpN B n a c :=
  ⟨hb.os.trans h.os, hb.tape.trans h.tape, hb.output.trans h.output, Nat.le_trans h.size hb.size, fun k h1 h2 h3 => (hb.block k (Nat.lt_of_lt_of_le h3 h.size)).trans (h.far k h1 h2 h3)⟩
set_option maxRecDepth 100000 in
set_option maxHeartbeats 4000000 in
theorem tnGame_any (L B Bt Br Bs : Nat) (tm : Bool) (s : List UInt8) (W : World) (hL : L ≤ 12) (hs : sigT L s) (hI : TellI W L B Bt Br Bs) :
    Calls Try.prog 41 #[tnV tm s, telV Bt Br Bs] W fun e w' => e = .returned (gmvR (gmvO tm s)) ∧ TellI w' L B Bt Br Bs ∧ KpN B W.heap.size W w' := by
  have hl100 : s.length ≤ 100 := by have := hs.1; omega
  have hBl := hI.map.lt
  have hbl := hI.box.lt
  have HI := Lib.hid hI
  have HM := Lib.hid (fun wx => tnMoves_any tm s wx hl100)
  have HBE := Lib.hid (fun wx h => tnBest_any L B Bt Br Bs tm s wx hL hs h)
  have HE : Hid (gmvO tm s = match bestM tm s with | m :: _ => some m | [] => (gmM tm s).head?) := Lib.hid rfl
  clear hI
  generalize gmvO tm s = O at *
  generalize bestM tm s = M at *
  generalize gmM tm s = G at *
  have hlen : (Value.int .i64 (0 : Int)) = .int .i64 0 := rfl
  go_enter Try.func41, Try.ntmps41
  go_wp2_with fail
  obtain ⟨W2, hW2⟩ : ∃ W2, W2 = (W.alloc (tnB tm s)).alloc (.cells #[.int .i64 0, .int .i64 0] 31) := ⟨_, rfl⟩
  rw [← hW2]
  have hz2 : W2.heap.size = W.heap.size + 2 := by rw [hW2]; simp
  have hB2 : Below W.heap.size W W2 := by rw [hW2]; exact ((Below.refl _ _).alloc (Nat.le_refl _) _).alloc (by simp) _
  have e1 : (W.alloc (tnB tm s)).heap.size = W.heap.size + 1 := by simp
  have c0 : W2.cell? ⟨W.heap.size, 0, none⟩ = some (.string (str s)) := by rw [hW2, cell_old _ _ _ _ (by omega), World.cell?_alloc_new]; rfl
  have c1 : W2.cell? ⟨W.heap.size, 1, none⟩ = some (.int .u8 (kd tm).toNat) := by rw [hW2, cell_old _ _ _ _ (by omega), World.cell?_alloc_new]; rfl
  have c2 : W2.cell? ⟨W.heap.size + 1, 0, none⟩ = some (.int .i64 0) := by rw [hW2, ← e1, World.cell?_alloc_new]; rfl
  have c3 : W2.cell? ⟨W.heap.size + 1, 1, none⟩ = some (.int .i64 0) := by rw [hW2, ← e1, World.cell?_alloc_new]; rfl
  have f2 : W2.frozen? ⟨W.heap.size + 1, 0, none⟩ = false := by rw [hW2, ← e1]; exact World.frozen?_alloc_new _ _ _ _
  have f3 : W2.frozen? ⟨W.heap.size + 1, 1, none⟩ = false := by rw [hW2, ← e1]; exact World.frozen?_alloc_new _ _ _ _
  have HI2 := HI.out.below hB2
  clear hW2
  refine (HBE.out _ HI2).mono ?_
  rintro e w3 ⟨A3, c, rfl, ho3, hI3, hk3⟩
  have d : ∀ b o, b < W2.heap.size → b ≠ B → w3.cell? ⟨b, o, none⟩ = W2.cell? ⟨b, o, none⟩ := fun b o hb hne => hk3.cell hb hb hne
  have df : ∀ b o, b < W2.heap.size → b ≠ B → w3.frozen? ⟨b, o, none⟩ = W2.frozen? ⟨b, o, none⟩ := fun b o hb hne => World.frozen?_of_block (a := ⟨b, o, none⟩) (hk3.far b hne hb hb)
  have d0 := (d W.heap.size 0 (by omega) (by omega)).trans c0
  have d1 := (d W.heap.size 1 (by omega) (by omega)).trans c1
  have d2 := (d (W.heap.size + 1) 0 (by omega) (by omega)).trans c2
  have d3 := (d (W.heap.size + 1) 1 (by omega) (by omega)).trans c3
  have g2 := (df (W.heap.size + 1) 0 (by omega) (by omega)).trans f2
  have g3 := (df (W.heap.size + 1) 1 (by omega) (by omega)).trans f3
  have HK3 := Lib.hid (KpN.before hB2 (by omega) hk3)
  have HI3 := Lib.hid hI3
  have hz3 := hk3.size
  have AT3 := Lib.hid (at_ownF ho3)
  clear d df c0 c1 c2 c3 f2 f3 hk3 hI3 HI2 HBE HI hB2 ho3
  cases M with
  | cons m r =>
    obtain ⟨ga, rfl, zz, p1, q1⟩ := AT3.out 0 (by simp)
    have p1 : w3.cell? ⟨ga, 0, none⟩ = some (.int .i64 m.1) := p1
    have q1 : w3.cell? ⟨ga, 1, none⟩ = some (.int .i64 m.2) := q1
    have HO : Hid (O = some m) := HE
    clear HE
    obtain ⟨mx, my⟩ := m
    go_wp2
    (try simp only [Exit.inBlock, Exit.then]); refine bodyPost_ret (results_tg _ _ (W.heap.size + 1) (.int .i64 mx) (.int .i64 my) rfl ?_ ?_) rfl ?_
    · exact (two_set d2 d3).1
    · exact (two_set d2 d3).2
    · exact ⟨by rw [HO.out]; rfl, tellI_set (tellI_set HI3.out _ _ _ (by omega) (by omega) (by omega) (by omega)) _ _ _ (by omega) (by omega) (by omega) (by omega), (KpN.set HK3.out (by omega) _ _).set (by omega) _ _⟩
  | nil =>
    have HO : Hid (O = G.head?) := HE
    clear HE
    go_wp2_with fail
    refine (HM.out _).mono ?_
    rintro e w4 ⟨v4, rfl, ho4, hb4⟩
    obtain ⟨A4, c4, rfl, AT4⟩ := at_of_own ho4
    have k2 := (hb4.cell (p := ⟨W.heap.size + 1, 0, none⟩) (by show W.heap.size + 1 < _; omega)).trans d2
    have k3 := (hb4.cell (p := ⟨W.heap.size + 1, 1, none⟩) (by show W.heap.size + 1 < _; omega)).trans d3
    have l2 := (World.frozen?_of_block (a := ⟨W.heap.size + 1, 0, none⟩) (hb4.block (W.heap.size + 1) (by omega))).trans g2
    have l3 := (World.frozen?_of_block (a := ⟨W.heap.size + 1, 1, none⟩) (hb4.block (W.heap.size + 1) (by omega))).trans g3
    have HI4 := Lib.hid (HI3.out.below hb4)
    have HK4 := Lib.hid (HK3.out.then hb4)
    have HAT4 := Lib.hid AT4
    clear ho4 hb4 AT4 d0 d1 d2 d3 g2 g3
    cases G with
    | cons m r =>
      obtain ⟨ga, rfl, zz, p1, q1⟩ := HAT4.out 0 (by simp)
      have p1 : w4.cell? ⟨ga, 0, none⟩ = some (.int .i64 m.1) := p1
      have q1 : w4.cell? ⟨ga, 1, none⟩ = some (.int .i64 m.2) := q1
      have HO : Hid (O = some m) := HO
      obtain ⟨mx, my⟩ := m
      go_wp2
      (try simp only [Exit.inBlock, Exit.then]); refine bodyPost_ret (results_tg _ _ (W.heap.size + 1) (.int .i64 mx) (.int .i64 my) rfl ?_ ?_) rfl ?_
      · exact (two_set k2 k3).1
      · exact (two_set k2 k3).2
      · exact ⟨by rw [HO.out]; rfl, tellI_set (tellI_set HI4.out _ _ _ (by omega) (by omega) (by omega) (by omega)) _ _ _ (by omega) (by omega) (by omega) (by omega), (KpN.set HK4.out (by omega) _ _).set (by omega) _ _⟩
    | nil =>
      have HO : Hid (O = none) := HO
      go_wp2
      (try simp only [Exit.inBlock, Exit.then]); refine bodyPost_ret (results_tg _ _ (W.heap.size + 1) (.int .i64 0) (.int .i64 0) rfl ?_ ?_) rfl ?_
      · exact (two_set k2 k3).1
      · exact (two_set k2 k3).2
      · exact ⟨by rw [HO.out]; rfl, tellI_set (tellI_set HI4.out _ _ _ (by omega) (by omega) (by omega) (by omega)) _ _ _ (by omega) (by omega) (by omega) (by omega), (KpN.set HK4.out (by omega) _ _).set (by omega) _ _⟩
end Go.Proofs.Ytflpncdnneapmaa
