/- Contracts: the move of a sign, and the lines that lead to some ends; the program's. -/
import Derived.Test.YtoefeooldcbfiaaWoM
import Derived.Test.YtoefeooldcbfiaaShelfC
import Derived.Test.YtoefeooldcbfiaaHsV
import Derived.Test.YtoefeooldcbfiaaLs
namespace Go.Proofs.Ytoefeooldcbfiaa
open Go.RowKit Go.Maps

theorem clone_any (l : List (List UInt8)) (A : Option Addr) (c : Nat) (w : World) (hat : StAt w A l) (hl : l.length ≤ 1000000) :
    Calls Try.prog 85 #[.slice A l.length c] w fun e w' => ∃ v, e = .returned v ∧ w'.ownsRow w.heap.size 9 1 v l.length (txs l) ∧ Below w.heap.size w w' := by
  cases A with
  | none =>
    have h0 : l = [] := by
      by_cases h : l = []
      · exact h
      · obtain ⟨g, e, _⟩ := hat 0 (List.length_pos_iff.2 h)
        cases e
    subst h0
    refine (Try.slices_Clone_string_nil _ c w).mono ?_
    rintro e w' ⟨rfl, rfl⟩
    exact ⟨_, rfl, World.ownsRow_nil _ _ _ _, Below.refl _ _⟩
  | some a =>
    by_cases h : l = []
    · subst h
      refine (Try.slices_Clone_string_zero a c w).mono ?_
      rintro e w' ⟨v, rfl, ho, _, hb⟩
      exact ⟨v, rfl, ho, hb⟩
    · have hp := List.length_pos_iff.2 h
      obtain ⟨g, e, _⟩ := hat 0 hp
      injection e with e
      subst e
      refine (Try.slices_Clone_string g 0 l.length c (l.map str) w (by simp) (by omega) (fun j hj => ?_)).mono ?_
      · rw [List.length_map] at hj
        obtain ⟨g', e, _, hc⟩ := hat j hj
        injection e with e
        injection e with e
        subst e
        rw [Nat.zero_add, hc, List.getD_eq_getElem?_getD, List.getElem?_map, List.getElem?_eq_getElem hj]
        rfl
      · rintro e w' ⟨v, rfl, ho, _, hb⟩
        refine ⟨v, rfl, ?_, hb⟩
        have e1 : ((l.map str).take l.length).map Value.string = txs l := by
          rw [List.take_of_length_le (by simp), List.map_map]
          rfl
        rw [← e1]; exact ho

/-- What playOfSign answers. -/
def psV (o : Option (Int × Int)) (x : List UInt8) : Value := match o with
  | some m => .tuple #[.agg #[.int .i64 m.1, .int .i64 m.2, .string (str x)], .bool true]
  | none => .tuple #[.agg #[.int .i64 0, .int .i64 0, .string (str [])], .bool false]
theorem results_ps (tmps : Array Value) (w : World) (g : Nat) (x y z : Value) (hp : tmps.getD 4 undef = .pointer (some ⟨g, 0, none⟩)) (c0 : w.cell? ⟨g, 0, none⟩ = some x) (c1 : w.cell? ⟨g, 1, none⟩ = some y) (c2 : w.cell? ⟨g, 2, none⟩ = some z) :
    (results Try.f67 tmps).run Try.prog w = .ok (.tuple #[.agg #[x, y, z], tmps.getD 5 undef]) w := by
  have hr : Try.f67.results = #[.cell 4 89, .tmp 5] := rfl
  unfold results
  rw [hr]
  simp at hp
  simp [hp, asAddr, c0, c1, c2, go_sem]
theorem set3_plain {W : World} {g : Nat} {a b c a0 b0 c0 : Value} (h0 : W.cell? ⟨g, 0, none⟩ = some a0) (h1 : W.cell? ⟨g, 1, none⟩ = some b0) (h2 : W.cell? ⟨g, 2, none⟩ = some c0) :
    (((W.setCell ⟨g, 0, none⟩ a).setCell ⟨g, 1, none⟩ b).setCell ⟨g, 2, none⟩ c).cell? ⟨g, 0, none⟩ = some a ∧ (((W.setCell ⟨g, 0, none⟩ a).setCell ⟨g, 1, none⟩ b).setCell ⟨g, 2, none⟩ c).cell? ⟨g, 1, none⟩ = some b ∧ (((W.setCell ⟨g, 0, none⟩ a).setCell ⟨g, 1, none⟩ b).setCell ⟨g, 2, none⟩ c).cell? ⟨g, 2, none⟩ = some c := by
  have ne : ∀ (X : World) (i j : Nat) (u : Value), i ≠ j → (X.setCell ⟨g, i, none⟩ u).cell? ⟨g, j, none⟩ = X.cell? ⟨g, j, none⟩ := fun X i j u h => World.cell?_setCell_other _ _ _ _ (by intro e; injection e with _ e; omega)
  refine ⟨?_, ?_, ?_⟩
  · rw [ne _ 2 0 _ (by omega), ne _ 1 0 _ (by omega)]
    exact World.cell?_setCell_same _ _ _ h0
  · rw [ne _ 2 1 _ (by omega)]
    exact World.cell?_setCell_same _ _ _ (by rw [ne _ 0 1 _ (by omega)]; exact h1)
  · exact World.cell?_setCell_same _ _ _ (by rw [ne _ 1 2 _ (by omega), ne _ 0 2 _ (by omega)]; exact h2)
theorem set3_cells {W : World} {g : Nat} (o : Obj) {a b c a0 b0 c0 : Value} (h0 : W.cell? ⟨g, 0, none⟩ = some a0) (h1 : W.cell? ⟨g, 1, none⟩ = some b0) (h2 : W.cell? ⟨g, 2, none⟩ = some c0) (hg : g < W.heap.size) :
    ((((W.setCell ⟨g, 0, none⟩ a).setCell ⟨g, 1, none⟩ b).setCell ⟨g, 2, none⟩ c).alloc o).cell? ⟨g, 0, none⟩ = some a ∧ ((((W.setCell ⟨g, 0, none⟩ a).setCell ⟨g, 1, none⟩ b).setCell ⟨g, 2, none⟩ c).alloc o).cell? ⟨g, 1, none⟩ = some b ∧ ((((W.setCell ⟨g, 0, none⟩ a).setCell ⟨g, 1, none⟩ b).setCell ⟨g, 2, none⟩ c).alloc o).cell? ⟨g, 2, none⟩ = some c := by
  have al : ∀ j, ((((W.setCell ⟨g, 0, none⟩ a).setCell ⟨g, 1, none⟩ b).setCell ⟨g, 2, none⟩ c).alloc o).cell? ⟨g, j, none⟩ = (((W.setCell ⟨g, 0, none⟩ a).setCell ⟨g, 1, none⟩ b).setCell ⟨g, 2, none⟩ c).cell? ⟨g, j, none⟩ := fun j =>
    ((Below.refl _ (((W.setCell ⟨g, 0, none⟩ a).setCell ⟨g, 1, none⟩ b).setCell ⟨g, 2, none⟩ c)).alloc (Nat.le_refl _) o).cell (p := ⟨g, j, none⟩) (by simpa using hg)
  rw [al, al, al]
  exact set3_plain h0 h1 h2
theorem find_snoc {p : Int × Int → Bool} (l : List (Int × Int)) (k : Nat) (h : k < l.length) (hn : (l.take k).find? p = none) (hp : p l[k] = true) : l.find? p = some l[k] := by
  calc l.find? p = (l.take k ++ l.drop k).find? p := by rw [List.take_append_drop]
    _ = some l[k] := by rw [List.find?_append, hn, List.drop_eq_getElem_cons h, List.find?_cons, hp]; rfl

set_option maxRecDepth 100000 in
set_option maxHeartbeats 2000000 in
theorem playOfSign_any (x : List UInt8) (c : UInt8) (w : World) (hg : goodL (str x) = true) :
    Calls Try.prog 67 #[.string (str x), .int .u8 c.toNat] w fun e w' => e = .returned (psV (mvW c x) x) ∧ Below w.heap.size w w' := by
  have hs1 := good1000 hg
  have hs : (str x).size ≤ maxLen := by unfold maxLen; omega
  obtain ⟨M, hM⟩ : ∃ M, M = mvsTo (canM (str x)) (str x) (str x).size := ⟨_, rfl⟩
  have HO : Hid (mvsOr (canM (str x)) (str x) = M) := Lib.hid (by unfold mvsOr; rw [if_pos hg, hM])
  have HF : Hid (mvW c x = M.find? fun m => decide (sgAt (str x) m.1 = c)) := Lib.hid (by unfold mvW; rw [hM])
  have HIN : Hid (∀ m ∈ M, canM (str x) m.1 m.2 = true) := Lib.hid fun m hm => (mem_moves (str x) m.1 m.2).1 (by rw [← hM]; exact hm)
  have hle : M.length ≤ 1000 := by
    have := mvsTo_le (canM (str x)) (str x) (str x).size
    rw [hM]; omega
  have hgG := Lib.hid hg
  have hz := fun w => (show (zeroValue 89).run Try.prog w = .ok (.agg #[.int .i64 0, .int .i64 0, .string (str [])]) w by kernel_rfl)
  clear hM hg
  go_enter Try.func67, Try.ntmps67
  go_wp2_with fail
  refine (movesOf_any _ _ hs).mono ?_
  rintro e w1 ⟨v1, rfl, ho1, hb1⟩
  rw [hgG.out]
  rw [HO.out] at ho1
  obtain ⟨A1, cap1, rfl, at1⟩ := at_of_own ho1
  have AT1 := Lib.hid at1
  obtain ⟨b0, b1⟩ := bcell hb1
  have e0 : w1.cell? ⟨w.heap.size, 0, none⟩ = some (.int .i64 0) := by rw [b0 _ _ (by simp), World.cell?_alloc_new]; rfl
  have e1 : w1.cell? ⟨w.heap.size, 1, none⟩ = some (.int .i64 0) := by rw [b0 _ _ (by simp), World.cell?_alloc_new]; rfl
  have e2 : w1.cell? ⟨w.heap.size, 2, none⟩ = some (.string (str [])) := by rw [b0 _ _ (by simp), World.cell?_alloc_new]; rfl
  have f0 : w1.frozen? ⟨w.heap.size, 0, none⟩ = false := by rw [b1 _ _ (by simp)]; simp
  have f1 : w1.frozen? ⟨w.heap.size, 1, none⟩ = false := by rw [b1 _ _ (by simp)]; simp
  have f2 : w1.frozen? ⟨w.heap.size, 2, none⟩ = false := by rw [b1 _ _ (by simp)]; simp
  have hlt0 : w.heap.size < w1.heap.size := by have := hb1.size; simp at this; omega
  have HE := Lib.hid (And.intro e0 (And.intro e1 (And.intro e2 (And.intro f0 (And.intro f1 f2)))))
  have HB := Lib.hid (((Below.refl w.heap.size w).alloc (Nat.le_refl _) (Obj.cells #[.int .i64 0, .int .i64 0, .string (str [])] 89)).trans (hb1.mono (by simp)))
  clear ho1 at1 b0 b1 e0 e1 e2 f0 f1 f2 hb1
  go_wp2
  go_loopw [9, 17] (fun _ i wr => ∃ k : Nat, k ≤ M.length ∧ i = .int .i64 k ∧ Hid ((M.take k).find? (fun m => decide (sgAt (str x) m.1 = c)) = none) ∧ Below w1.heap.size w1 wr) (fun _ i _ => M.length - (intOf i).toNat)
  case atStart => exact ⟨0, Nat.zero_le _, rfl, Lib.hid rfl, Below.refl _ _⟩
  case round =>
    obtain ⟨k, hk, rfl, hN, hB⟩ := hrel
    have hwz : w.heap.size < wr.heap.size := Nat.lt_of_lt_of_le hlt0 hB.size
    have c0 := (hB.cell (p := ⟨w.heap.size, 0, none⟩) hlt0).trans HE.out.1
    have c1 := (hB.cell (p := ⟨w.heap.size, 1, none⟩) hlt0).trans HE.out.2.1
    have c2 := (hB.cell (p := ⟨w.heap.size, 2, none⟩) hlt0).trans HE.out.2.2.1
    have g0 := (hB.frozen (p := ⟨w.heap.size, 0, none⟩) hlt0).trans HE.out.2.2.2.1
    have g1 := (hB.frozen (p := ⟨w.heap.size, 1, none⟩) hlt0).trans HE.out.2.2.2.2.1
    have g2 := (hB.frozen (p := ⟨w.heap.size, 2, none⟩) hlt0).trans HE.out.2.2.2.2.2
    have HBB := Lib.hid (HB.out.trans (hB.mono (Nat.le_of_lt hlt0)))
    by_cases hlt : k < M.length
    · obtain ⟨g, rfl, hg, m0, m1⟩ := (AT1.out.below hB) k hlt
      have hc := HIN.out M[k] (List.getElem_mem hlt)
      have HFS := Lib.hid (fun hp => find_snoc M k hlt hN.out hp)
      have hT : Hid (M.take (k + 1) = M.take k ++ [M[k]]) := Lib.hid (List.take_succ_eq_append_getElem hlt)
      generalize M[k] = p at m0 m1 hc HFS hT
      obtain ⟨a, b⟩ := p
      obtain ⟨a', b', ea, eb, ha, hb', hne⟩ := canM_in hc
      have ea : a = a' := ea
      have eb : b = b' := eb
      subst ea; subst eb
      have hsg : sgAt (str x) (a' : Int) = (str x)[a'] := sgAt_in _ a' ha
      have i1 : (0 : Int) ≤ (k : Int) := by omega
      have i2 : (k : Int) < (M.length : Int) := by omega
      have i3 : (0 : Int) ≤ (a' : Int) := by omega
      have i4 : (a' : Int) < ((str x).size : Int) := by omega
      have hBk := Lib.hid hB
      have m0 : wr.cell? ⟨g, k * 2, none⟩ = some (.int .i64 (a' : Int)) := m0
      have m1 : wr.cell? ⟨g, k * 2 + 1, none⟩ = some (.int .i64 (b' : Int)) := m1
      by_cases he : (str x)[a'] = c
      · have hq : (((str x)[a'].toNat : Int) == (c.toNat : Int)) = true := beq_u8 he
        have HR : Hid (mvW c x = some ((a' : Int), (b' : Int))) := Lib.hid (by rw [HF.out]; exact HFS.out (decide_eq_true (by rw [← he]; exact hsg)))
        clear hB hc he hsg hN
        go_wp2
        (try simp only [Exit.inBlock, Exit.then]); refine bodyPost_ret (results_ps _ _ w.heap.size (.int .i64 (a' : Int)) (.int .i64 (b' : Int)) (.string (str x)) rfl ?_ ?_ ?_) rfl ?_
        · exact (set3_cells _ c0 c1 c2 hwz).1
        · exact (set3_cells _ c0 c1 c2 hwz).2.1
        · exact (set3_cells _ c0 c1 c2 hwz).2.2
        · exact ⟨by rw [HR.out]; rfl, (((HBB.out.setCell (Nat.le_refl _) _).setCell (Nat.le_refl _) _).setCell (Nat.le_refl _) _).alloc (by simp; omega) _⟩
      · have hq : (((str x)[a'].toNat : Int) == (c.toNat : Int)) = false := bne_u8 he
        have hN2 : Hid ((M.take (k + 1)).find? (fun m => decide (sgAt (str x) m.1 = c)) = none) := Lib.hid (by
          rw [hT.out, List.find?_append, hN.out]
          simp only [Option.none_or, List.find?_singleton]
          rw [if_neg]
          simp only [decide_eq_true_eq]
          rw [hsg]; exact he)
        clear hB hc he hsg hN
        go_wp2
        go_roundw
        case rel => exact ⟨k + 1, by omega, by go_num, hN2, hBk.out.alloc hBk.out.size _⟩
        case measure => simp [intOf]; omega
    · obtain rfl : k = M.length := by omega
      have HR : Hid (mvW c x = none) := Lib.hid (by rw [HF.out]; have := hN.out; rwa [List.take_length] at this)
      clear hN hB
      go_wp2
      (try simp only [Exit.inBlock, Exit.then]); refine bodyPost_ret (results_ps _ _ w.heap.size (.int .i64 0) (.int .i64 0) (.string (str [])) rfl ?_ ?_ ?_) rfl ?_
      · exact (set3_plain c0 c1 c2).1
      · exact (set3_plain c0 c1 c2).2.1
      · exact (set3_plain c0 c1 c2).2.2
      · exact ⟨by rw [HR.out]; rfl, ((HBB.out.setCell (Nat.le_refl _) _).setCell (Nat.le_refl _) _).setCell (Nat.le_refl _) _⟩

/-- A flag for each of some lines, in a map. -/
noncomputable abbrev bdR : Value → Option (DataW Unit × List MemPlace) := plainElem Try.prog 4
theorem bdR_mk (b : Bool) : bdR (.bool b) = some (.lit (.bool b), []) := plainElem_bool Try.underlying4 b
theorem pb_inv {P : Program} {e : TypeId} {v : Value} {y : DataW Unit × List MemPlace} (he : P.underlying e = some .bool) (h : plainElem P e v = some y) : ∃ b, v = .bool b ∧ y = (.lit (.bool b), []) := by
  unfold plainElem at h
  rw [he] at h
  cases v <;> simp at h
  exact ⟨_, rfl, h.symm⟩
theorem bdR_inv {v : Value} {y : DataW Unit × List MemPlace} (h : bdR v = some y) : ∃ b, v = .bool b ∧ y = (.lit (.bool b), []) := pb_inv Try.underlying4 h
theorem zeroBd (w : World) : (zeroValue 4).run Try.prog w = .ok (.bool false) w := by kernel_rfl
theorem keyW {x : List UInt8} (h : x.length ≤ maxLen) : keyOf Try.prog 9 (.string (str x)) = some (.string x) := WideMaps.keyOf_string_mk Try.underlying9 (by rw [str_size]; exact h)
theorem Try.keysW : Keyed Try.prog 9 := string_keyed Try.underlying9
/-- The map has just these lines. -/
def BoV (D : DataW Unit) (M : List (List UInt8)) : Prop := (∀ v ∈ M, hasV D v (.lit (.bool true))) ∧ ∀ v, Maps.has D (.string v) = true → v ∈ M
theorem boV_put {D : DataW Unit} {M : List (List UInt8)} (hD : IsMap D) (h : BoV D M) (x : List UInt8) : BoV (D.put (.string x) (.lit (.bool true))) (M ++ [x]) := by
  refine ⟨fun v hv => ?_, fun v hv => ?_⟩
  · by_cases e : v = x
    · subst e; exact hasV_same hD _ _
    · rcases List.mem_append.1 hv with hv | hv
      · exact hasV_other _ (h.1 v hv) e
      · exact absurd (by simpa using hv) e
  · rcases has_put hv with rfl | hv
    · exact List.mem_append.2 (.inr (by simp))
    · exact List.mem_append.2 (.inl (h.2 v hv))
def bitOf : DataW Unit → Bool
  | .lit (.bool b) => b
  | _ => false
/-- What a look-up gives. -/
theorem boV_look {w : World} {b n : Nat} {D : DataW Unit} {M : List (List UInt8)} {t : TypeId} (ht : Try.prog.underlying t = some (.map 9 4)) (h : w.ownsMap Try.prog 9 bdR b n D) (hV : BoV D M) {x : List UInt8} (hx : x.length ≤ maxLen) :
    (Instr.lookup t (.map (some b)) (.string (str x)) false).run Try.prog w = .ok (.bool (decide (x ∈ M))) w := by
  obtain ⟨v, ps, hrun, hRv⟩ := h.lookup Try.keysW ht (zeroBd w) (bdR_mk false) (keyW hx)
  obtain ⟨q, rfl, hq⟩ := bdR_inv hRv
  obtain ⟨hq, _⟩ := Prod.mk.inj hq
  rw [hrun]
  have e : q = decide (x ∈ M) := by
    by_cases hm : x ∈ M
    · have h1 := (hV.1 x hm).2 (.lit (.bool false))
      rw [hq] at h1
      have h2 := congrArg bitOf h1
      rw [decide_eq_true hm]
      exact h2
    · have hn : Maps.has D (.string x) = false := by
        cases hb : Maps.has D (.string x)
        · rfl
        · exact absurd (hV.2 x hb) hm
      rw [atKey_of_not_has hn] at hq
      have h2 := congrArg bitOf hq
      rw [decide_eq_false hm]
      exact h2.symm
  rw [e]
theorem own_neq_map {W : World} {b B n m k : Nat} {e : TypeId} {v : Value} {xs : List Value} {P : Program} {t : TypeId} {R : Value → Option (DataW Unit × List MemPlace)} {D : DataW Unit} (h : W.ownsRow b e m v n xs) (hB : W.ownsMap P t R B k D) : v.ownBlock ≠ some B := by
  obtain ⟨es, clock, hb, _⟩ := hB
  rcases h.2 with ⟨hv, _⟩ | ⟨g, cap, cur, rfl, _, hg, _⟩
  · subst hv; intro h; cases h
  · intro e2
    injection e2 with e2
    subst e2
    rw [hb] at hg
    cases hg
theorem boV_few {c : Nat} {w : World} {b n : Nat} {D : DataW Unit} {M : List (List UInt8)} (h : w.ownsMap Try.prog 9 bdR b n D) (hV : BoV D M) (hg : ∀ x, x ∈ M → goodT c x) : w.ownsMap Try.prog 9 bdR b 59049 D :=
  own_few (c := c) h Try.keysW Try.underlying9 fun v hv => hg v (hV.2 v hv)

/-- The lines that lead to some ends, as the keys of a map of the call's own. -/
def LdPost (ends : List (List UInt8)) (w : World) (e : Ending) (w' : World) : Prop :=
  ∃ b D M, e = .returned (.map (some b)) ∧ w.heap.size ≤ b ∧ w'.ownsMap Try.prog 9 bdR b 59049 D ∧ BoV D M ∧ (∀ v, v ∈ M ↔ Ld ends v) ∧ Below w.heap.size w w'

set_option maxRecDepth 100000 in
set_option maxHeartbeats 4000000 in
theorem leading_any (n : Nat) (ends : List (List UInt8)) (A : Option Addr) (c : Nat) (w : World) (hat : StAt w A ends) (hg : ∀ e ∈ ends, goodT n e) (hl : ends.length ≤ 60000) :
    Calls Try.prog 66 #[.slice A ends.length c] w (LdPost ends w) := by
  obtain ⟨i0, hi, hz0, hz1, hz2⟩ := info_parts Try.infoS
  have HI := Lib.hid hi
  have HZ0 := Lib.hid hz0
  have HZ1 := Lib.hid hz1
  have HZ2 := Lib.hid hz2
  have HN := Lib.hid hat
  have HG := Lib.hid hg
  have hmm := @run_makeMap Try.prog
  clear hi hz0 hz1 hz2 hat hg
  go_enter Try.func66, Try.ntmps66
  go_wp2_with fail
  refine (clone_any ends A c _ (HN.out.below ((Below.refl _ _).alloc (Nat.le_refl _) _)) (by omega)).mono ?_
  rintro e w1 ⟨v1, rfl, ho1, hb1⟩
  have HM1 : Hid (w1.ownsMap Try.prog 9 bdR w.heap.size 59049 (.map [])) := Lib.hid (((World.ownsMap_made w Try.prog 9 bdR).mono (by omega)).kept (grown_of_below hb1) (by intro e; cases e))
  have HB1 := Lib.hid (((Below.refl w.heap.size w).alloc (Nat.le_refl _) (Obj.map #[] 0)).trans (hb1.mono (by simp)))
  have HO1 : Hid (w1.ownsRow (w.heap.size + 1) 9 1 v1 ends.length (txs ends)) := Lib.hid (by simpa using ho1)
  clear ho1 hb1
  go_wp2
  go_loopw [4, 5, 6, 7] (fun v t _ _ wr => ∃ (k : Nat) (Q M : List (List UInt8)) (D : DataW Unit), t = .int .i64 k ∧ Hid (LdI n ends k Q M) ∧ Hid (wr.ownsRow (w.heap.size + 1) 9 1 v Q.length (txs Q)) ∧ Hid (wr.ownsMap Try.prog 9 bdR w.heap.size 59049 D) ∧ Hid (BoV D M) ∧ Hid (Below w.heap.size w wr)) (fun _ t _ _ _ => 1000000 - (intOf t).toNat)
  case atStart => exact ⟨0, ends, [], .map [], rfl, Lib.hid (LdI.start HG.out), HO1, HM1, Lib.hid ⟨fun v hv => (by cases hv), fun v hv => (by cases hv)⟩, HB1⟩
  case round =>
    obtain ⟨k, Q, M, D, rfl, hL, hO, hM, hV, hB⟩ := hrel
    have hlen := hL.out.len
    have hfew := hL.out.few
    have hkle := hL.out.kle
    by_cases hlt : k < Q.length
    · obtain ⟨g, cap, rfl, hgb, hgl⟩ := row_form hO.out (by omega)
      have hcell := (hO.out.cellAt k (by omega)).trans (txs_get Q k hlt)
      have hgx := hL.out.gd Q[k] (List.getElem_mem hlt)
      have HOLD := Lib.hid (fun h => hL.out.old hlt h)
      have HNEW := Lib.hid (fun h => hL.out.new hlt h)
      have hxl : Q[k].length ≤ maxLen := by have := hgx.2; unfold maxLen; omega
      have hlk := boV_look Try.underlying83 hM.out hV.out hxl
      have hq : (befL Q[k]).length ≤ 10 := by have := bef_few Q[k]; have := hgx.2; omega
      have HX := Lib.hid (txs_get Q k hlt)
      generalize hx : Q[k] = x at HX hcell hgx HOLD HNEW hxl hlk hq
      have i1 : (0 : Int) ≤ (k : Int) := by omega
      have i2 : (k : Int) < (Q.length : Int) := by omega
      by_cases hm : x ∈ M
      · have hd : decide (x ∈ M) = true := decide_eq_true hm
        rw [hd] at hlk
        have HI2 := Lib.hid (HOLD.out hm)
        clear HNEW hm hd hx
        go_wp2
        go_roundw
        case rel => exact ⟨k + 1, Q, M, D, by go_num, HI2, hO, hM, hV, hB⟩
        case measure => simp [intOf]; omega
      · have hd : decide (x ∈ M) = false := decide_eq_false hm
        rw [hd] at hlk
        have HI2 := Lib.hid (HNEW.out hm)
        have hrx : reachB (str x) = true := by
          unfold reachB
          rw [hgx.1, str_size]
          have := hgx.2
          simp; omega
        have hnm := own_neq_map hO.out hM.out
        have hisM := hM.out.isMap
        clear hm hd hx HOLD
        go_wp2_with (first | (at_mapUpdate; refine wpList_mapUpdate_own _ rfl _ _ _ 83 rfl 9 4 Try.keysW Try.underlying83 bdR w.heap.size 59049 D rfl hM.out (by decide) _ _ (.string x) rfl rfl (keyW hxl) _ [] (bdR_mk true) ?_; intro w2 hm2 hg2; have ho2 := hO.out.kept hg2 (.inr hnm); have hcell2 := (ho2.cellAt k (by omega)).trans HX.out))
        have hgr2 : Below w.heap.size w w2 := hB.out.grown hg2 hB.out.size (fun j hj => by injection hj with hj; omega)
        have HO2 := Lib.hid ho2
        have HM2 := Lib.hid hm2
        have HB2 := Lib.hid hgr2
        clear hg2 ho2 hm2 hgr2
        refine (linesBefore_yes x _ hrx).mono ?_
        rintro e w3 ⟨v3, rfl, ho3, hb3⟩
        obtain ⟨A3, cap3, rfl, hc3, hm3, at3, hno3, hba3⟩ := st_own ho3
        have HO3 := Lib.hid (own_below HO2.out hb3)
        have HM3 := Lib.hid (HM2.out.kept (grown_of_below hb3) (by intro e; cases e))
        have HB3 := Lib.hid (HB2.out.trans (hb3.mono HB2.out.size))
        have HCE : Hid (∀ ad, A3 = some ad → ∀ j u, (txs (befL x))[j]? = some u → w3.cell? (ad.add j) = some u) := Lib.hid (by
          intro ad e j u hu
          have hj : j < (befL x).length := by have := (List.getElem?_eq_some_iff.1 hu).1; rwa [txs_len] at this
          obtain ⟨g', e', _, hc⟩ := at3 j hj
          rw [e] at e'
          injection e' with e'
          subst e'
          rw [addr_add, hc]
          rw [txs_get _ j hj] at hu
          exact hu)
        have HNO : Hid (A3 = none → (befL x).length = 0 ∧ cap3 = 0) := Lib.hid fun e => by
          obtain ⟨h1, h2⟩ := hno3 e
          exact ⟨by rw [h1]; rfl, h2⟩
        have hz3 : w.heap.size + 1 ≤ w3.heap.size := HM3.out.lt
        have HM4 := Lib.hid (own_neq_map HO3.out HM3.out)
        have H3 : Q.length + (befL x).length ≤ maxLen := by unfold maxLen; omega
        have H4 : (Q.length + (befL x).length) * 16 ≤ 140737488355328 := by omega
        clear ho3 hb3 at3 hno3 hba3 hcell hlk hnm hcell2
        go_wp2_with (first | (at_builtin; refine wpList_append_st _ rfl _ _ 30 rfl (w.heap.size + 1) 9 i0 (.string ByteArray.empty) 1 16 Try.underlying30 HI.out HZ0.out HZ1.out HZ2.out rfl (by decide) _ Q.length (txs Q) rfl HO3.out A3 (befL x).length cap3 (txs (befL x)) rfl HNO.out (by rw [txs_len, Nat.mul_one]) HCE.out (txs_one _) H3 H4 hz3 ?_; intro v4 w4 ho4 hg4; have HO4 := Lib.hid ho4; have HG4 := Lib.hid hg4; clear ho4 hg4))
        go_roundw
        case rel =>
          have hm4 := HM3.out.kept HG4.out (fun e => HM4.out e.symm)
          have hV4 := boV_put hisM hV.out x
          refine ⟨k + 1, Q ++ befL x, M ++ [x], _, by go_num, HI2, Lib.hid ?_, Lib.hid (boV_few (c := n) hm4 hV4 (fun v hv => HI2.out.gd v (HI2.out.sub v hv))), Lib.hid hV4, Lib.hid ?_⟩
          · rw [List.length_append, txs_app]
            exact HO4.out
          · exact HB3.out.grown HG4.out HB3.out.size (fun j hj => by have := (HO3.out.lt j hj).1; omega)
        case measure => simp [intOf]; omega
    · obtain rfl : k = Q.length := by omega
      have HF := Lib.hid hL.out.fin
      obtain ⟨A4, cap4, rfl, _⟩ := st_own hO.out
      clear hL
      go_wp2
      go_ret
      exact ⟨w.heap.size, D, M, rfl, Nat.le_refl _, hM.out, hV.out, HF.out, hB.out⟩
end Go.Proofs.Ytoefeooldcbfiaa
