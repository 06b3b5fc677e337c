/- Contracts: whether a move is among moves. -/
import Derived.Test.YtoiaklnaecghnabGreatDoorMoves
import Derived.BigQuiet
import Derived.Test.YtoiaklnaecghnabGreatDoorBdEt
namespace Go.Proofs.YtoiaklnaecghnabGreatDoor
open Go.RowKit

theorem cell_below (w : World) (ob : Obj) (b k : Nat) (h : b < w.heap.size) : (w.alloc ob).cell? ⟨b, k, none⟩ = w.cell? ⟨b, k, none⟩ :=
  World.cell?_of_block (a := ⟨b, k, none⟩) (Below.heap_alloc w ob b h)

theorem eql_no {f t a b : Int} (h : ¬ (a = f ∧ b = t)) (w : World) : (binOp .eql 39 (.agg #[.int .i64 f, .int .i64 t]) (.agg #[.int .i64 a, .int .i64 b])).run Tryz.prog w = .ok (.bool false) w := by
  rw [eql_move]
  congr 2
  rw [Bool.and_eq_false_iff]
  by_cases e : f = a
  · exact .inr (by simpa using fun e2 : t = b => h ⟨e.symm, e2.symm⟩)
  · exact .inl (by simpa using e)
theorem eql_yes (f t : Int) (w : World) : (binOp .eql 39 (.agg #[.int .i64 f, .int .i64 t]) (.agg #[.int .i64 f, .int .i64 t])).run Tryz.prog w = .ok (.bool true) w := by
  rw [eql_move]
  simp

set_option maxHeartbeats 1000000 in
theorem indexMv_any (l : List (Int × Int)) (A : Option Addr) (c : Nat) (f t : Int) (w : World) (hat : MvAt w A l) (hn : l.length ≤ 1000) :
    Calls Tryz.prog 41 #[.slice A l.length c, .agg #[.int .i64 f, .int .i64 t]] w fun e w' => ∃ r : Int, e = .returned (.int .i64 r) ∧ (0 ≤ r ↔ (f, t) ∈ l) ∧ Below w.heap.size w w' := by
  have HAT : Hid (MvAt (w.alloc (mvB f t)) A l) := Lib.hid fun k hk => by
    obtain ⟨g, a, b, c, d⟩ := hat k hk
    exact ⟨g, a, by simp; omega, (cell_below w (mvB f t) g _ b).trans c, (cell_below w (mvB f t) g _ b).trans d⟩
  clear hat
  go_enter Tryz.func41, Tryz.ntmps41
  go_wp2
  obtain ⟨W0, hW0⟩ : ∃ W0, W0 = w.alloc (mvB f t) := ⟨_, rfl⟩
  rw [← hW0] at HAT ⊢
  have q0 : W0.cell? ⟨w.heap.size, 0, none⟩ = some (.int .i64 f) := by rw [hW0, World.cell?_alloc_new]; rfl
  have q1 : W0.cell? ⟨w.heap.size, 1, none⟩ = some (.int .i64 t) := by rw [hW0, World.cell?_alloc_new]; rfl
  have hzl : w.heap.size < W0.heap.size := by rw [hW0]; simp
  have HB0 : Hid (Below w.heap.size w W0) := Lib.hid (by rw [hW0]; exact (Below.refl _ _).alloc (Nat.le_refl _) _)
  clear hW0
  go_loopw [8] (fun x wr => ∃ j : Nat, j ≤ l.length ∧ x = .int .i64 j ∧ Hid (∀ k (h : k < l.length), k < j → l[k] ≠ (f, t)) ∧ Below W0.heap.size W0 wr) (fun x _ => l.length - (intOf x).toNat)
  case atStart => exact ⟨0, Nat.zero_le _, rfl, Lib.hid fun k _ hk => absurd hk (by omega), Below.refl _ _⟩
  case round =>
    obtain ⟨j, hj, rfl, hno, hB⟩ := hrel
    by_cases hlt : j < l.length
    · obtain ⟨g, rfl, hg, c0, c1⟩ := (HAT.out.below hB) j hlt
      have d0 := (hB.cell (p := ⟨w.heap.size, 0, none⟩) hzl).trans q0
      have d1 := (hB.cell (p := ⟨w.heap.size, 1, none⟩) hzl).trans q1
      have i1 : (0 : Int) ≤ (j : Int) := by omega
      have i2 : (j : Int) < (l.length : Int) := by omega
      have HM : Hid (l[j] ∈ l) := Lib.hid (List.getElem_mem hlt)
      have HN : Hid (l[j] ≠ (f, t) → ∀ k (h : k < l.length), k < j + 1 → l[k] ≠ (f, t)) := Lib.hid fun h0 k h hk => by
        by_cases e : k = j
        · subst e; exact h0
        · exact hno.out k h (by omega)
      obtain ⟨⟨a, b⟩, hp⟩ : ∃ p, p = l[j] := ⟨_, rfl⟩
      rw [← hp] at c0 c1 HM HN
      clear hp
      by_cases e : a = f ∧ b = t
      · obtain ⟨rfl, rfl⟩ := e
        have hq := eql_yes a b
        go_wp2
        go_quiet (fail)
        go_wp2
        go_ret
        exact ⟨j, rfl, ⟨fun _ => HM.out, fun _ => by omega⟩, HB0.out.trans ((below_drewN hB _).mono (by omega))⟩
      · have hq := fun wx => eql_no e wx
        have HN2 := Lib.hid (HN.out (fun h => by injection h with h1 h2; exact e ⟨h1, h2⟩))
        clear e
        go_wp2
        go_quiet (fail)
        go_wp2
        go_roundw
        case rel => exact ⟨j + 1, by omega, by go_num, HN2, below_drewN hB _⟩
        case measure => simp [intOf]; omega
    · obtain rfl : j = l.length := by omega
      go_wp2
      go_ret
      refine ⟨-1, rfl, ⟨fun h => by omega, fun h => ?_⟩, HB0.out.trans (hB.mono (by omega))⟩
      obtain ⟨k, hk, e⟩ := List.getElem_of_mem h
      exact absurd e (hno.out k hk hk)

set_option maxHeartbeats 1000000 in
theorem containsMv_any (l : List (Int × Int)) (A : Option Addr) (c : Nat) (f t : Int) (w : World) (hat : MvAt w A l) (hn : l.length ≤ 1000) :
    Calls Tryz.prog 30 #[.slice A l.length c, .agg #[.int .i64 f, .int .i64 t]] w fun e w' => ∃ r : Bool, e = .returned (.bool r) ∧ (r = true ↔ (f, t) ∈ l) ∧ Below w.heap.size w w' := by
  have HAT : Hid (MvAt (w.alloc (mvB f t)) A l) := Lib.hid fun k hk => by
    obtain ⟨g, a, b, c, d⟩ := hat k hk
    exact ⟨g, a, by simp; omega, (cell_below w (mvB f t) g _ b).trans c, (cell_below w (mvB f t) g _ b).trans d⟩
  clear hat
  go_enter Tryz.func30, Tryz.ntmps30
  go_wp2_with fail
  refine (indexMv_any l A c f t _ HAT.out hn).mono ?_
  rintro e w1 ⟨r, rfl, hr, hb⟩
  have HR := Lib.hid hr
  have HB := Lib.hid (((Below.refl w.heap.size w).alloc (Nat.le_refl _) (mvB f t)).trans (hb.mono (by simp)))
  clear hr hb
  go_wp2
  go_ret
  exact ⟨decide (0 ≤ r), rfl, by rw [decide_eq_true_iff]; exact HR.out, HB.out⟩

end Go.Proofs.YtoiaklnaecghnabGreatDoor
namespace Go.Proofs.YtoiaklnaecghnabGreatDoor
open Go.RowKit

theorem bv_news {w : World} {g : Nat} {l : List UInt8} (h : BsAt w g l) : ∀ j u, (bv l)[j]? = some u → w.cell? ((⟨g, 0, none⟩ : Addr).add j) = some u := by
  intro j u hu
  rw [List.getElem?_eq_some_iff] at hu
  obtain ⟨hj, e⟩ := hu
  rw [bv_len] at hj
  have := h j hj
  rw [← e]
  simp only [bv, List.getElem_map]
  rw [show (⟨g, 0, none⟩ : Addr).add j = ⟨g, j, none⟩ by simp only [Addr.add]; split <;> simp_all]
  exact this
theorem bv_one (l : List UInt8) : ∀ u ∈ bv l, u.oneCell' = true := by
  intro u hu
  simp only [bv, List.mem_map] at hu
  obtain ⟨c, _, rfl⟩ := hu
  rfl
theorem eql_some_nil8 (w : World) (a : Addr) (n c : Nat) : (binOp .eql 42 (.slice (some a) n c) (.slice none 0 0)).run Tryz.prog w = .ok (.bool false) w := by
  have h : ∀ d : Nat, (Op.equalIn (d + 1) 42 (.slice (some a) n c) (.slice none 0 0)).run Tryz.prog w = .ok false w := fun d => by
    simp [Op.equalIn, run_underlying Tryz.underlying42]
  simp only [binOp]
  simp [Op.equal, Op.maxDepth, h 9999]
theorem own_empty8 (w : World) (T : TypeId) (n : Nat) : (w.alloc (Obj.cells #[] T)).ownsRow w.heap.size T n (.slice (some ⟨w.heap.size, 0, none⟩) 0 0) 0 [] :=
  ⟨by simp, .inr ⟨w.heap.size, 0, #[], rfl, Nat.le_refl _, heap_alloc_new w _, Nat.le_refl _, Nat.zero_le _, by simp, by simp⟩⟩
set_option maxRecDepth 100000 in
set_option maxHeartbeats 2000000 in
theorem cloneB_any (l : List UInt8) (g c : Nat) (w : World) (hg : g < w.heap.size) (hin : BsAt w g l) (hl : l.length ≤ 300) :
    Calls Tryz.prog 32 #[.slice (some ⟨g, 0, none⟩) l.length c] w fun e w' => ∃ v, e = .returned v ∧ w'.ownsRow w.heap.size 5 1 v l.length (bv l) ∧ Below w.heap.size w w' := by
  obtain ⟨i0, hi, hz0, hz1, hz2⟩ := info_parts Tryz.infoU8
  have HI := Lib.hid hi
  have HZ0 := Lib.hid hz0
  have HZ1 := Lib.hid hz1
  have HZ2 := Lib.hid hz2
  clear hi hz0 hz1 hz2
  have HIN := Lib.hid hin
  clear hin
  have hB0 : Below w.heap.size w (w.alloc (Obj.cells #[] 5)) := (Below.refl _ _).alloc (Nat.le_refl _) _
  have O0 : (w.alloc (Obj.cells #[] 5)).ownsRow w.heap.size 5 1 (.slice (some ⟨w.heap.size, 0, none⟩) 0 0) 0 [] := own_empty8 w _ _
  have hnil := fun W => eql_some_nil8 W ⟨g, 0, none⟩ l.length c
  go_enter Tryz.func32, Tryz.ntmps32
  go_wp2_with (first | (at_builtin; refine wpList_append_own _ rfl _ _ 42 rfl w.heap.size 5 i0 (.int .u8 0) 1 1 Tryz.underlying42 HI.out HZ0.out HZ1.out HZ2.out rfl (by decide) _ 0 [] rfl O0 ⟨g, 0, none⟩ l.length c (bv l) rfl (by rw [bv_len]; omega) (bv_news (HIN.out.below hg hB0)) (bv_one _) (by unfold maxLen; omega) (by omega) (by simp) ?_; intro v1 w1 o1 g1 _))
  have hB1 := hB0.grown g1 (by simp) (fun j hj => (O0.lt j hj).1)
  go_wp2_with fail
  go_ret
  exact ⟨v1, rfl, by rw [Nat.zero_add, List.nil_append] at o1; exact o1, hB1⟩
end Go.Proofs.YtoiaklnaecghnabGreatDoor
namespace Go.Proofs.YtoiaklnaecghnabGreatDoor
open Go.RowKit

/-- The cells behind a move. -/
def mvF (F : List UInt8) (f t : Nat) : List UInt8 := (F.set t (F.getD f 0)).set f 46
theorem mvF_len (F : List UInt8) (f t : Nat) : (mvF F f t).length = F.length := by simp [mvF]
/-- What board.moves answers, wherever it is asked. -/
def MvC (F : List UInt8) (M : List (Int × Int)) (wd g cap : Nat) : Prop := ∀ wx, g < wx.heap.size → BsAt wx g F → Calls Tryz.prog 31 #[.agg #[.int .i64 wd, .slice (some ⟨g, 0, none⟩) F.length cap]] wx fun e w' => ∃ v, e = .returned v ∧ w'.ownsRow wx.heap.size 39 2 v M.length (flat M) ∧ Below wx.heap.size wx w'
/-- A board that is one's own, with its size. -/
def BhY (w : World) (wd n : Nat) (F : List UInt8) (e : Ending) (w' : World) : Prop :=
  ∃ g cap, e = .returned (.tuple #[.agg #[.int .i64 wd, .slice (some ⟨g, 0, none⟩) n cap], .bool true]) ∧ w.heap.size ≤ g ∧ g < w'.heap.size ∧ n ≤ cap ∧ BsAt w' g F ∧ Below w.heap.size w w'
theorem results_bo4 (tmps : Array Value) (w : World) (g : Nat) (x y : Value) (hp : tmps.getD 4 undef = .pointer (some ⟨g, 0, none⟩)) (c0 : w.cell? ⟨g, 0, none⟩ = some x) (c1 : w.cell? ⟨g, 1, none⟩ = some y) :
    (results Tryz.f18 tmps).run Tryz.prog w = .ok (.tuple #[.agg #[x, y], tmps.getD 5 undef]) w := by
  have hr : Tryz.f18.results = #[.cell 4 44, .tmp 5] := rfl
  unfold results
  rw [hr]
  simp at hp
  simp [hp, asAddr, c0, c1, go_sem]
theorem BsAt.set {w : World} {g : Nat} {l : List UInt8} (h : BsAt w g l) (k : Nat) (hk : k < l.length) (c : UInt8) : BsAt (w.setCell ⟨g, k, none⟩ (.int .u8 c.toNat)) g (l.set k c) := fun j hj => by
  rw [List.length_set] at hj
  by_cases e : j = k
  · subst e
    rw [World.cell?_setCell_same _ _ _ (h j hk), List.getElem_set_self]
  · rw [World.cell?_setCell_other _ _ _ _ (by intro e2; injection e2 with _ e2; omega), h j hj, List.getElem_set_ne (by omega)]
theorem frz_new8 (w : World) (c : Array Value) (T : TypeId) (o : Nat) : (w.alloc (Obj.cells c T)).frozen? ⟨w.heap.size, o, none⟩ = false := by simp
set_option maxRecDepth 100000 in
set_option maxHeartbeats 4000000 in
theorem behind_no (F : List UInt8) (M : List (Int × Int)) (wd g cap : Nat) (f t : Int) (w : World) (hg : g < w.heap.size) (hb : BsAt w g F) (hM : M.length ≤ 1000) (hn : (f, t) ∉ M) (HM : Hid (MvC F M wd g cap)) :
    Calls Tryz.prog 18 #[.agg #[.int .i64 wd, .slice (some ⟨g, 0, none⟩) F.length cap], .agg #[.int .i64 f, .int .i64 t]] w fun e w' => e = .returned (.tuple #[.agg #[.int .i64 0, .slice none 0 0], .bool false]) ∧ Below w.heap.size w w' := by
  obtain ⟨W0, hW0⟩ : ∃ W0, W0 = ((w.alloc (Obj.cells #[.int .i64 wd, .slice (some ⟨g, 0, none⟩) F.length cap] 44)).alloc (Obj.cells #[.int .i64 f, .int .i64 t] 39)).alloc (Obj.cells #[.int .i64 0, .slice none 0 0] 44) := ⟨_, rfl⟩
  have y1 : (w.alloc (Obj.cells #[.int .i64 wd, .slice (some ⟨g, 0, none⟩) F.length cap] 44)).heap.size = w.heap.size + 1 := by simp
  have y2 : ((w.alloc (Obj.cells #[.int .i64 wd, .slice (some ⟨g, 0, none⟩) F.length cap] 44)).alloc (Obj.cells #[.int .i64 f, .int .i64 t] 39)).heap.size = w.heap.size + 1 + 1 := by simp
  have c0 : W0.cell? ⟨w.heap.size, 0, none⟩ = some (.int .i64 wd) := by rw [hW0, World.cell?_alloc_old _ _ _ (by simp; omega), World.cell?_alloc_old _ _ _ (by simp), World.cell?_alloc_new]; rfl
  have c1 : W0.cell? ⟨w.heap.size, 1, none⟩ = some (.slice (some ⟨g, 0, none⟩) F.length cap) := by rw [hW0, World.cell?_alloc_old _ _ _ (by simp; omega), World.cell?_alloc_old _ _ _ (by simp), World.cell?_alloc_new]; rfl
  have c2 : W0.cell? ⟨w.heap.size + 1, 0, none⟩ = some (.int .i64 f) := by rw [hW0, World.cell?_alloc_old _ _ _ (by simp), ← y1, World.cell?_alloc_new]; rfl
  have c3 : W0.cell? ⟨w.heap.size + 1, 1, none⟩ = some (.int .i64 t) := by rw [hW0, World.cell?_alloc_old _ _ _ (by simp), ← y1, World.cell?_alloc_new]; rfl
  have p0 : W0.cell? ⟨w.heap.size + 1 + 1, 0, none⟩ = some (.int .i64 0) := by rw [hW0, ← y2, World.cell?_alloc_new]; rfl
  have p1 : W0.cell? ⟨w.heap.size + 1 + 1, 1, none⟩ = some (.slice none 0 0) := by rw [hW0, ← y2, World.cell?_alloc_new]; rfl
  have q0 : W0.frozen? ⟨w.heap.size + 1 + 1, 0, none⟩ = false := by rw [hW0, ← y2]; exact frz_new8 _ _ _ _
  have q1 : W0.frozen? ⟨w.heap.size + 1 + 1, 1, none⟩ = false := by rw [hW0, ← y2]; exact frz_new8 _ _ _ _
  have z0 : w.heap.size + 1 + 1 < W0.heap.size := by rw [hW0]; simp
  have za : w.heap.size < W0.heap.size := by omega
  have zb : w.heap.size + 1 < W0.heap.size := by omega
  have hB0 : Below w.heap.size w W0 := by rw [hW0]; exact (((Below.refl _ _).alloc (Nat.le_refl _) _).alloc (by simp) _).alloc (by simp; omega) _
  have HBS := Lib.hid (hb.below hg hB0)
  have hg0 : g < W0.heap.size := by omega
  have HB0 := Lib.hid hB0
  have HC : Hid (∀ A c wx, MvAt wx A M → Calls Tryz.prog 30 #[.slice A M.length c, .agg #[.int .i64 f, .int .i64 t]] wx fun e w' => e = .returned (.bool false) ∧ Below wx.heap.size wx w') := Lib.hid fun A c wx h => by
    refine (containsMv_any M A c f t wx h hM).mono ?_
    rintro e w' ⟨r, rfl, hr, h2⟩
    obtain rfl : r = false := by cases r <;> simp_all
    exact ⟨rfl, h2⟩
  unfold MvC at HM
  clear hb hn hM hB0 y1 y2
  generalize F.length = n at HM c1 hW0 ⊢
  go_enter Tryz.func18, Tryz.ntmps18
  go_wp2_with fail
  rw [← hW0]
  clear hW0
  go_region_held3 (fun w' => w'.cell? ⟨w.heap.size, 0, none⟩ = some (.int .i64 wd) ∧ w'.cell? ⟨w.heap.size, 1, none⟩ = some (.slice (some ⟨g, 0, none⟩) n cap) ∧ w'.cell? ⟨w.heap.size + 1, 0, none⟩ = some (.int .i64 f) ∧ w'.cell? ⟨w.heap.size + 1, 1, none⟩ = some (.int .i64 t)) (first | exact ⟨c0, c1, c2, c3⟩ | exact ⟨d0, d1, d2, d3⟩ | exact ⟨e0, e1, e2, e3⟩) (first | (go_at_call 31; refine (HM.out _ (by exact hg0) (by exact HBS.out)).mono ?_; rintro e w1 ⟨v, rfl, o1, hb1⟩; obtain ⟨A1, k1, rfl, hat⟩ := at_of_own o1; have HAT := Lib.hid hat; clear hat o1; have za1 := Nat.lt_of_lt_of_le za hb1.size; have zb1 := Nat.lt_of_lt_of_le zb hb1.size; have d0 := (hb1.cell (p := ⟨w.heap.size, 0, none⟩) za).trans c0; have d1 := (hb1.cell (p := ⟨w.heap.size, 1, none⟩) za).trans c1; have d2 := (hb1.cell (p := ⟨w.heap.size + 1, 0, none⟩) zb).trans c2; have d3 := (hb1.cell (p := ⟨w.heap.size + 1, 1, none⟩) zb).trans c3) | (go_at_call 30; refine (HC.out _ _ _ HAT.out).mono ?_; rintro e w2 ⟨rfl, hb2⟩; have za2 := Nat.lt_of_lt_of_le za1 hb2.size; have zb2 := Nat.lt_of_lt_of_le zb1 hb2.size; have e0 := (hb2.cell (p := ⟨w.heap.size, 0, none⟩) za1).trans d0; have e1 := (hb2.cell (p := ⟨w.heap.size, 1, none⟩) za1).trans d1; have e2 := (hb2.cell (p := ⟨w.heap.size + 1, 0, none⟩) zb1).trans d2; have e3 := (hb2.cell (p := ⟨w.heap.size + 1, 1, none⟩) zb1).trans d3))
  all_goals
    have HB2 := Lib.hid ((HB0.out.drew.trans (hb1.mono (show w.heap.size ≤ W0.drew.heap.size from Nat.le_of_lt za))).trans (hb2.mono (Nat.le_of_lt za1)))
    have zc1 := Nat.lt_of_lt_of_le z0 hb1.size
    have u0 := (hb2.cell (p := ⟨w.heap.size + 1 + 1, 0, none⟩) zc1).trans ((hb1.cell (p := ⟨w.heap.size + 1 + 1, 0, none⟩) z0).trans p0)
    have u1 := (hb2.cell (p := ⟨w.heap.size + 1 + 1, 1, none⟩) zc1).trans ((hb1.cell (p := ⟨w.heap.size + 1 + 1, 1, none⟩) z0).trans p1)
    have v0 := (hb2.frozen (p := ⟨w.heap.size + 1 + 1, 0, none⟩) zc1).trans ((hb1.frozen (p := ⟨w.heap.size + 1 + 1, 0, none⟩) z0).trans q0)
    have v1 := (hb2.frozen (p := ⟨w.heap.size + 1 + 1, 1, none⟩) zc1).trans ((hb1.frozen (p := ⟨w.heap.size + 1 + 1, 1, none⟩) z0).trans q1)
    clear hb1 hb2 p0 p1 q0 q1 c0 c1 c2 c3 d0 d1 d2 d3 e0 e1 e2 e3
    go_wp2_with fail
    (try simp only [Exit.inBlock, Exit.then]); refine bodyPost_ret (results_bo4 _ _ (w.heap.size + 1 + 1) (.int .i64 0) (.slice none 0 0) rfl ?_ ?_) rfl ⟨rfl, ?_⟩
    · rw [World.cell?_setCell_other _ _ _ _ (by intro e; injection e with _ e; omega)]; exact World.cell?_setCell_same _ _ _ u0
    · exact World.cell?_setCell_same _ _ _ (by rw [World.cell?_setCell_other _ _ _ _ (by intro e; injection e with _ e; omega)]; exact u1)
    exact ((HB2.out.setCell (show w.heap.size ≤ w.heap.size + 1 + 1 by omega) _).setCell (show w.heap.size ≤ w.heap.size + 1 + 1 by omega) _)
set_option maxRecDepth 100000 in
set_option maxHeartbeats 4000000 in
theorem behind_yes (F : List UInt8) (M : List (Int × Int)) (wd g cap f t : Nat) (w : World) (hg : g < w.heap.size) (hb : BsAt w g F) (hM : M.length ≤ 1000) (hF : F.length ≤ 300) (hf : f < F.length) (ht : t < F.length) (hft : f ≠ t) (hn : ((f : Int), (t : Int)) ∈ M) (HM : Hid (MvC F M wd g cap)) :
    Calls Tryz.prog 18 #[.agg #[.int .i64 wd, .slice (some ⟨g, 0, none⟩) F.length cap], .agg #[.int .i64 f, .int .i64 t]] w (BhY w wd F.length (mvF F f t)) := by
  obtain ⟨W0, hW0⟩ : ∃ W0, W0 = ((w.alloc (Obj.cells #[.int .i64 wd, .slice (some ⟨g, 0, none⟩) F.length cap] 44)).alloc (Obj.cells #[.int .i64 f, .int .i64 t] 39)).alloc (Obj.cells #[.int .i64 0, .slice none 0 0] 44) := ⟨_, rfl⟩
  have y1 : (w.alloc (Obj.cells #[.int .i64 wd, .slice (some ⟨g, 0, none⟩) F.length cap] 44)).heap.size = w.heap.size + 1 := by simp
  have y2 : ((w.alloc (Obj.cells #[.int .i64 wd, .slice (some ⟨g, 0, none⟩) F.length cap] 44)).alloc (Obj.cells #[.int .i64 f, .int .i64 t] 39)).heap.size = w.heap.size + 1 + 1 := by simp
  have c0 : W0.cell? ⟨w.heap.size, 0, none⟩ = some (.int .i64 wd) := by rw [hW0, World.cell?_alloc_old _ _ _ (by simp; omega), World.cell?_alloc_old _ _ _ (by simp), World.cell?_alloc_new]; rfl
  have c1 : W0.cell? ⟨w.heap.size, 1, none⟩ = some (.slice (some ⟨g, 0, none⟩) F.length cap) := by rw [hW0, World.cell?_alloc_old _ _ _ (by simp; omega), World.cell?_alloc_old _ _ _ (by simp), World.cell?_alloc_new]; rfl
  have c2 : W0.cell? ⟨w.heap.size + 1, 0, none⟩ = some (.int .i64 f) := by rw [hW0, World.cell?_alloc_old _ _ _ (by simp), ← y1, World.cell?_alloc_new]; rfl
  have c3 : W0.cell? ⟨w.heap.size + 1, 1, none⟩ = some (.int .i64 t) := by rw [hW0, World.cell?_alloc_old _ _ _ (by simp), ← y1, World.cell?_alloc_new]; rfl
  have p0 : W0.cell? ⟨w.heap.size + 1 + 1, 0, none⟩ = some (.int .i64 0) := by rw [hW0, ← y2, World.cell?_alloc_new]; rfl
  have p1 : W0.cell? ⟨w.heap.size + 1 + 1, 1, none⟩ = some (.slice none 0 0) := by rw [hW0, ← y2, World.cell?_alloc_new]; rfl
  have q0 : W0.frozen? ⟨w.heap.size + 1 + 1, 0, none⟩ = false := by rw [hW0, ← y2]; exact frz_new8 _ _ _ _
  have q1 : W0.frozen? ⟨w.heap.size + 1 + 1, 1, none⟩ = false := by rw [hW0, ← y2]; exact frz_new8 _ _ _ _
  have z0 : w.heap.size + 1 + 1 < W0.heap.size := by rw [hW0]; simp
  have za : w.heap.size < W0.heap.size := by omega
  have zb : w.heap.size + 1 < W0.heap.size := by omega
  have hB0 : Below w.heap.size w W0 := by rw [hW0]; exact (((Below.refl _ _).alloc (Nat.le_refl _) _).alloc (by simp) _).alloc (by simp; omega) _
  have HBS := Lib.hid (hb.below hg hB0)
  have hg0 : g < W0.heap.size := by omega
  have HB0 := Lib.hid hB0
  have HC : Hid (∀ A c wx, MvAt wx A M → Calls Tryz.prog 30 #[.slice A M.length c, .agg #[.int .i64 f, .int .i64 t]] wx fun e w' => e = .returned (.bool true) ∧ Below wx.heap.size wx w') := Lib.hid fun A c wx h => by
    refine (containsMv_any M A c f t wx h hM).mono ?_
    rintro e w' ⟨r, rfl, hr, h2⟩
    obtain rfl : r = true := by cases r <;> simp_all
    exact ⟨rfl, h2⟩
  unfold MvC at HM
  clear hb hn hM hB0 y1 y2
  have HCL := Lib.hid (fun c wx h1 h2 => cloneB_any F g c wx h1 h2 hF)
  clear hF
  generalize hnl : F.length = n at HM c1 hW0 ⊢ hf ht HCL
  have HNL := Lib.hid hnl
  clear hnl
  go_enter Tryz.func18, Tryz.ntmps18
  go_wp2_with fail
  rw [← hW0]
  clear hW0
  go_region_held3 (fun w' => w'.cell? ⟨w.heap.size, 0, none⟩ = some (.int .i64 wd) ∧ w'.cell? ⟨w.heap.size, 1, none⟩ = some (.slice (some ⟨g, 0, none⟩) n cap) ∧ w'.cell? ⟨w.heap.size + 1, 0, none⟩ = some (.int .i64 f) ∧ w'.cell? ⟨w.heap.size + 1, 1, none⟩ = some (.int .i64 t)) (first | exact ⟨c0, c1, c2, c3⟩ | exact ⟨d0, d1, d2, d3⟩ | exact ⟨e0, e1, e2, e3⟩) (first | (go_at_call 31; refine (HM.out _ (by exact hg0) (by exact HBS.out)).mono ?_; rintro e w1 ⟨v, rfl, o1, hb1⟩; obtain ⟨A1, k1, rfl, hat⟩ := at_of_own o1; have HAT := Lib.hid hat; clear hat o1; have za1 := Nat.lt_of_lt_of_le za hb1.size; have zb1 := Nat.lt_of_lt_of_le zb hb1.size; have d0 := (hb1.cell (p := ⟨w.heap.size, 0, none⟩) za).trans c0; have d1 := (hb1.cell (p := ⟨w.heap.size, 1, none⟩) za).trans c1; have d2 := (hb1.cell (p := ⟨w.heap.size + 1, 0, none⟩) zb).trans c2; have d3 := (hb1.cell (p := ⟨w.heap.size + 1, 1, none⟩) zb).trans c3) | (go_at_call 30; refine (HC.out _ _ _ HAT.out).mono ?_; rintro e w2 ⟨rfl, hb2⟩; have za2 := Nat.lt_of_lt_of_le za1 hb2.size; have zb2 := Nat.lt_of_lt_of_le zb1 hb2.size; have e0 := (hb2.cell (p := ⟨w.heap.size, 0, none⟩) za1).trans d0; have e1 := (hb2.cell (p := ⟨w.heap.size, 1, none⟩) za1).trans d1; have e2 := (hb2.cell (p := ⟨w.heap.size + 1, 0, none⟩) zb1).trans d2; have e3 := (hb2.cell (p := ⟨w.heap.size + 1, 1, none⟩) zb1).trans d3))
  all_goals
    have HB2 := Lib.hid ((HB0.out.drew.trans (hb1.mono (show w.heap.size ≤ W0.drew.heap.size from Nat.le_of_lt za))).trans (hb2.mono (Nat.le_of_lt za1)))
    have zc1 := Nat.lt_of_lt_of_le z0 hb1.size
    have zc2 := Nat.lt_of_lt_of_le zc1 hb2.size
    have u0 := (hb2.cell (p := ⟨w.heap.size + 1 + 1, 0, none⟩) zc1).trans ((hb1.cell (p := ⟨w.heap.size + 1 + 1, 0, none⟩) z0).trans p0)
    have u1 := (hb2.cell (p := ⟨w.heap.size + 1 + 1, 1, none⟩) zc1).trans ((hb1.cell (p := ⟨w.heap.size + 1 + 1, 1, none⟩) z0).trans p1)
    have v0 := (hb2.frozen (p := ⟨w.heap.size + 1 + 1, 0, none⟩) zc1).trans ((hb1.frozen (p := ⟨w.heap.size + 1 + 1, 0, none⟩) z0).trans q0)
    have v1 := (hb2.frozen (p := ⟨w.heap.size + 1 + 1, 1, none⟩) zc1).trans ((hb1.frozen (p := ⟨w.heap.size + 1 + 1, 1, none⟩) z0).trans q1)
    have g1 : g < w1.heap.size := Nat.lt_of_lt_of_le (show g < W0.drew.heap.size from hg0) hb1.size
    have g2 := Nat.lt_of_lt_of_le g1 hb2.size
    have B2 := Lib.hid (((show BsAt W0.drew g F from HBS.out).below (show g < W0.drew.heap.size from hg0) hb1).below g1 hb2)
    clear hb1 hb2 p0 p1 q0 q1 c0 c1 c2 c3 d0 d1 d2 d3 HM HC HAT
    go_wp2_with fail
    refine (HCL.out _ _ g2 B2.out).mono ?_
    rintro e w3 ⟨v, rfl, o3, hb3⟩
    obtain ⟨g3, k3, rfl, r1, r2, r3, r4, r5⟩ := own_op o3 (by omega)
    have ff := o3.frozenAt f
    have ft := o3.frozenAt t
    have HR5 := Lib.hid r5
    have cf : w3.cell? ⟨g3, f, none⟩ = some (.int .u8 (F.getD f 0).toNat) := by
      rw [r5 f (by rw [bv_len, HNL.out]; exact hf)]
      simp [bv, List.getD, List.getElem?_eq_getElem (show f < F.length by rw [HNL.out]; exact hf)]
    have ct : w3.cell? ⟨g3, t, none⟩ = some (.int .u8 (F.getD t 0).toNat) := by
      rw [r5 t (by rw [bv_len, HNL.out]; exact ht)]
      simp [bv, List.getD, List.getElem?_eq_getElem (show t < F.length by rw [HNL.out]; exact ht)]
    have i0 : (0 : Int) ≤ (f : Int) := by omega
    have i1 : (0 : Int) ≤ (t : Int) := by omega
    have i2 : (f : Int) < (n : Int) := by omega
    have i3 : (t : Int) < (n : Int) := by omega
    have m0 := (hb3.cell (p := ⟨w.heap.size, 0, none⟩) za2).trans e0
    have m2 := (hb3.cell (p := ⟨w.heap.size + 1, 0, none⟩) zb2).trans e2
    have m3 := (hb3.cell (p := ⟨w.heap.size + 1, 1, none⟩) zb2).trans e3
    have x0 := (hb3.cell (p := ⟨w.heap.size + 1 + 1, 0, none⟩) zc2).trans u0
    have x1 := (hb3.cell (p := ⟨w.heap.size + 1 + 1, 1, none⟩) zc2).trans u1
    have y0 := (hb3.frozen (p := ⟨w.heap.size + 1 + 1, 0, none⟩) zc2).trans v0
    have y1 := (hb3.frozen (p := ⟨w.heap.size + 1 + 1, 1, none⟩) zc2).trans v1
    have HB3 := Lib.hid (HB2.out.trans (hb3.mono (Nat.le_of_lt za2)))
    clear u0 u1 v0 v1 e0 e1 e2 e3 hb3 r5
    have hBS3 : BsAt w3 g3 F := fun j hj => (HR5.out j (by rw [bv_len]; exact hj)).trans (by simp [bv])
    have HBS4 := Lib.hid ((hBS3.set t (by rw [HNL.out]; exact ht) (F.getD f 0)).set f (by rw [List.length_set, HNL.out]; exact hf) 46)
    have hgn : w.heap.size + 1 + 1 < g3 := Nat.lt_of_lt_of_le zc2 r1
    clear hBS3
    have HMF : Hid (mvF F f t = (F.set t (F.getD f 0)).set f 46) := Lib.hid rfl
    generalize F.getD f 0 = c at cf HMF HBS4
    generalize F.getD t 0 = c2 at ct
    have cfs : (w3.setCell ⟨g3, t, none⟩ (.int .u8 c.toNat)).cell? ⟨g3, f, none⟩ = some (.int .u8 c.toNat) := by
      rw [World.cell?_setCell_other _ _ _ _ (by intro e; injection e with _ e; omega)]
      exact cf
    go_upto_region 4 with fail
    go_region
    obtain ⟨W4, hW4⟩ : ∃ W4, W4 = ((w3.setCell ⟨g3, t, none⟩ (.int .u8 c.toNat)).setCell ⟨g3, f, none⟩ (.int .u8 46)).drew := ⟨_, rfl⟩
    have kc : ∀ b o, b < g3 → W4.cell? ⟨b, o, none⟩ = w3.cell? ⟨b, o, none⟩ := fun b o hb => by
      rw [hW4]
      show ((w3.setCell ⟨g3, t, none⟩ (.int .u8 c.toNat)).setCell ⟨g3, f, none⟩ (.int .u8 46)).cell? _ = _
      rw [World.cell?_setCell_other _ _ _ _ (by intro e; injection e with e _; omega), World.cell?_setCell_other _ _ _ _ (by intro e; injection e with e _; omega)]
    have kf : ∀ b o, W4.frozen? ⟨b, o, none⟩ = w3.frozen? ⟨b, o, none⟩ := fun b o => by
      rw [hW4]
      show ((w3.setCell ⟨g3, t, none⟩ (.int .u8 c.toNat)).setCell ⟨g3, f, none⟩ (.int .u8 46)).frozen? _ = _
      rw [World.frozen?_setCell, World.frozen?_setCell]
    have HBS5 : Hid (BsAt W4 g3 (mvF F f t)) := Lib.hid (by rw [hW4, HMF.out]; exact HBS4.out)
    have hwg : w.heap.size ≤ g3 := by omega
    have HB4 : Hid (Below w.heap.size w W4) := Lib.hid (by rw [hW4]; exact ((HB3.out.setCell hwg _).setCell hwg _).drew)
    have r4s : g3 < W4.heap.size := by rw [hW4]; show g3 < ((w3.setCell _ _).setCell _ _).heap.size; simpa using r2
    have x0' := (kc (w.heap.size + 1 + 1) 0 hgn).trans x0
    have x1' := (kc (w.heap.size + 1 + 1) 1 hgn).trans x1
    have y0' := (kf (w.heap.size + 1 + 1) 0).trans y0
    have y1' := (kf (w.heap.size + 1 + 1) 1).trans y1
    have m0' := (kc w.heap.size 0 (by omega)).trans m0
    rw [← hW4]
    clear hW4 kc kf x0 x1 y0 y1 m0 m2 m3 cf ct cfs ff ft HR5 HBS4 HB3 o3
    go_wp2_with fail
    (try simp only [Exit.inBlock, Exit.then]); refine bodyPost_ret (results_bo4 _ _ (w.heap.size + 1 + 1) (.int .i64 wd) (.slice (some ⟨g3, 0, none⟩) n k3) rfl ?_ ?_) rfl ⟨g3, k3, rfl, hwg, ?_, r3, ?_, (HB4.out.setCell (show w.heap.size ≤ w.heap.size + 1 + 1 by omega) _).setCell (show w.heap.size ≤ w.heap.size + 1 + 1 by omega) _⟩
    · rw [World.cell?_setCell_other _ _ _ _ (by intro e; injection e with _ e; omega)]; exact World.cell?_setCell_same _ _ _ x0'
    · exact World.cell?_setCell_same _ _ _ (by rw [World.cell?_setCell_other _ _ _ _ (by intro e; injection e with _ e; omega)]; exact x1')
    · simpa using r4s
    · intro j hj
      rw [World.cell?_setCell_other _ _ _ _ (by intro e; injection e with e _; omega), World.cell?_setCell_other _ _ _ _ (by intro e; injection e with e _; omega)]
      exact HBS5.out j hj
end Go.Proofs.YtoiaklnaecghnabGreatDoor
