/- Contracts: an exchange told from its end, the program's: a range over the library's backward iterator. -/
import Derived.Test.YticdhapbkfbhjaaSwapC
import Derived.RangeFuncNested
import Derived.RangeFuncBox
import Derived.RangeFuncLeaves
import Derived.Shelf.Abstract
import Derived.WalkKit
import Derived.OwnWalkIn
import Derived.TacticsInMore
import Derived.LoopNIn
import Derived.LoopIn
import Derived.Maps.AppendAt
namespace Go.Proofs.Yticdhapbkfbhjaa
open Go.RowKit Go.Shelf

attribute [local go_sem] Oper.semAt_some

/-- What has come when k rounds are over. -/
def uptoF {α : Type} (f : Nat → α) (k : Nat) : List α := (List.range k).map f
theorem uptoF_succ {α : Type} (f : Nat → α) (k : Nat) : uptoF f (k + 1) = uptoF f k ++ [f k] := by simp [uptoF, List.range_succ]
theorem uptoF_length {α : Type} (f : Nat → α) (k : Nat) : (uptoF f k).length = k := by simp [uptoF]
/-- What the k-th round is handed: an index and the move there, from the end on. -/
def fromEnd (l : List (Int × Int)) (k : Nat) : Nat × (Int × Int) := (l.length - 1 - k, l.getD (l.length - 1 - k) (0, 0))
/-- What a round keeps: all below n₀, and the box Bs. -/
def KpB (n₀ Bs : Nat) (W W' : World) : Prop := Below n₀ W W' ∧ ∀ v, W.cell? ⟨Bs, 0, none⟩ = some v → W'.cell? ⟨Bs, 0, none⟩ = some v
theorem KpB.refl (n₀ Bs : Nat) (W : World) : KpB n₀ Bs W W := ⟨Below.refl _ _, fun _ h => h⟩
theorem KpB.trans {n₀ Bs : Nat} {A B C : World} (h : KpB n₀ Bs A B) (k : KpB n₀ Bs B C) : KpB n₀ Bs A C := ⟨h.1.trans k.1, fun v e => k.2 v (h.2 v e)⟩
theorem KpB.put {n₀ Bs : Nat} {w : World} (hn : n₀ ≤ w.heap.size) (W : World) (l : Nat) (o o' : Obj) (hl : w.heap.size ≤ l) (h : W.heap[l]? = some o) (h1 : o.isCells = false) (h2 : o.isWalk = false) : KpB n₀ Bs W (W.putObj l o') :=
  ⟨belowK_b hn W l o o' hl h h1 h2, fun v e => cell_kept e (grownBy_putObj' W l o') fun r e' => by cases e'; exact ⟨o, h, h1⟩⟩
/-- A move's box: two cells. -/
def Box2 (W : World) (B : Nat) (x y : Int) : Prop := W.heap[B]? = some (.cells #[.int .i64 x, .int .i64 y] 53 (0, 0))
theorem Box2.new (W : World) (x y : Int) : Box2 (W.alloc (.cells #[.int .i64 x, .int .i64 y] 53)) W.heap.size x y := World.alloc_heap_new W _
theorem Box2.cell0 {W : World} {B : Nat} {x y : Int} (h : Box2 W B x y) : W.cell? ⟨B, 0, none⟩ = some (.int .i64 x) := by simp [World.cell?, show W.heap[B]? = _ from h]
theorem Box2.cell1 {W : World} {B : Nat} {x y : Int} (h : Box2 W B x y) : W.cell? ⟨B, 1, none⟩ = some (.int .i64 y) := by simp [World.cell?, show W.heap[B]? = _ from h]
theorem Box2.kept {W W' : World} {row : Option Nat} {B : Nat} {x y : Int} (h : Box2 W B x y) (hg : W.grownBy W' row) (hne : some B ≠ row) : Box2 W' B x y := (hg.block B (Array.getElem?_eq_some_iff.1 h).1 hne).trans h
abbrev encMv (x : Nat × (Int × Int)) : Array Value := #[.int .i64 (x.1 : Int), .agg #[.int .i64 x.2.1, .int .i64 x.2.2]]

set_option maxRecDepth 100000 in
set_option maxHeartbeats 2000000 in
theorem backward1_in (F : Fence) (n : Nat) (h7 : F.fn 87) (hro : F.round = none) (hn : 1 ≤ n) (lp Bs n₀ : Nat) (l : List (Int × Int)) (A : Option Addr) (cap : Nat) (hlen : l.length ≤ 100) (J Jx : List (Nat × (Int × Int)) → World → Prop)
    (hY : ∀ pre x W, J pre W → pre.length < l.length → YieldAt F (n - 1) Try.prog lp (encMv x) W fun e W' =>
      (e = .returned (.bool true) ∧ J (pre ++ [x]) W' ∧ KpB n₀ Bs W W') ∨ (e = .returned (.bool false) ∧ Jx (pre ++ [x]) W'))
    (W : World) (hBs : W.cell? ⟨Bs, 0, none⟩ = some (.slice A l.length cap)) (hc : ∀ k (h : k < l.length), ∃ g o, A = some ⟨g, o, none⟩ ∧ g < n₀ ∧ W.cell? ⟨g, o + k * 2, none⟩ = some (.int .i64 l[k].1) ∧ W.cell? ⟨g, o + k * 2 + 1, none⟩ = some (.int .i64 l[k].2)) (h0 : J [] W) :
    CallsIn F n Try.prog 87 #[.func (.yield lp) #[] #[], .pointer (some ⟨Bs, 0, none⟩)] W fun e W' => (∃ v, e = .returned v) ∧
      ((∃ ys, ys = uptoF (fromEnd l) l.length ∧ J ys W') ∨ (∃ pre, (∃ k, k ≤ l.length ∧ pre = uptoF (fromEnd l) k) ∧ Jx pre W')) := by
  have HC := Lib.hid hc
  have HBS := Lib.hid hBs
  clear hc
  refine callsIn_of_wp Try.func87 rfl h7 ?_ hro
  simp only [Try.ntmps87, List.size_toArray, List.length_cons, List.length_nil, Nat.reduceAdd, Nat.reduceSub, Array.replicate_succ, Array.replicate_zero, List.push_toArray, List.append_toArray, List.nil_append, List.cons_append]
  gi_wp2
  clear hBs
  gi_loopw [3] (fun i wr => ∃ (k : Nat) (z : Int), k ≤ l.length ∧ i = .int .i64 z ∧ z = (l.length : Int) - 1 - k ∧ J (uptoF (fromEnd l) k) wr ∧ KpB n₀ Bs W wr)
    (fun i _ => (intOf i + 1).toNat)
  case atStart => exact ⟨0, _, Nat.zero_le _, rfl, by omega, h0, KpB.refl _ _ _⟩
  case round =>
    obtain ⟨k, z, hk, rfl, hz, hJs, hK⟩ := hrel
    have hB := hK.1
    have cS : wr.cell? ⟨Bs, 0, none⟩ = some (.slice A l.length cap) := hK.2 _ HBS.out
    by_cases hlt : k < l.length
    · obtain ⟨m, hm⟩ : ∃ m : Nat, m = l.length - 1 - k := ⟨_, rfl⟩
      obtain rfl : z = (m : Int) := by omega
      have hml : m < l.length := by omega
      obtain ⟨g, o, rfl, hg, d0, d1⟩ := HC.out m hml
      have c0 : wr.cell? ⟨g, o + m * 2, none⟩ = some (.int .i64 l[m].1) := (hB.cell (p := ⟨g, o + m * 2, none⟩) hg).trans d0
      have c1 : wr.cell? ⟨g, o + m * 2 + 1, none⟩ = some (.int .i64 l[m].2) := (hB.cell (p := ⟨g, o + m * 2 + 1, none⟩) hg).trans d1
      have hfe : Hid (fromEnd l k = (m, (l[m].1, l[m].2))) := by
        show _ = _
        unfold fromEnd
        rw [← hm, List.getD_eq_getElem?_getD, List.getElem?_eq_getElem hml]
        rfl
      generalize l[m].1 = a at c0 hfe d0
      generalize l[m].2 = b at c1 hfe d1
      have i1 : (0 : Int) ≤ (m : Int) := by omega
      have i2 : (m : Int) < (l.length : Int) := by omega
      obtain ⟨fn, tmps, assign, body, hy, hR⟩ := hY _ (m, (a, b)) wr hJs (by rw [uptoF_length]; exact hlt)
      dsimp only [encMv] at hy
      have hmk := Lib.hid (show m + k + 1 = l.length by omega)
      clear hz hm d0 d1
      gi_wp2
      refine hR.mono ?_
      rintro e W3 (⟨rfl, hJ3, hk3⟩ | ⟨rfl, hJx3⟩)
      · have hJ4 : J (uptoF (fromEnd l) (k + 1)) W3 := by rw [uptoF_succ, hfe.out]; exact hJ3
        have hK3 := hK.trans hk3
        have hwrap : (0 : Int) ≤ (m : Int) := i1
        clear hJ3 hk3 hJs hB hK cS c0 c1 hy hR
        gi_wp2
        go_roundw
        case rel => exact ⟨k + 1, _, by omega, rfl, by have := hmk.out; omega, hJ4, hK3⟩
        case measure => simp [intOf]
      · have hJ4 : Jx (uptoF (fromEnd l) (k + 1)) W3 := by rw [uptoF_succ, hfe.out]; exact hJx3
        clear hy hR
        gi_wp2
        refine bodyPost_ret (results_none rfl _ _ _) rfl ?_
        exact ⟨⟨_, rfl⟩, .inr ⟨_, ⟨k + 1, by omega, rfl⟩, hJ4⟩⟩
    · obtain rfl : k = l.length := by omega
      obtain rfl : z = -1 := by omega
      clear hz
      gi_wp2
      go_end0
      exact ⟨⟨_, rfl⟩, .inl ⟨_, rfl, hJs⟩⟩

set_option maxHeartbeats 1000000 in
/-- The iterator's maker: the slice is boxed, the function value has the box. -/
theorem backward_in (F : Fence) (n : Nat) (h5 : F.fn 58) (hro : F.round = none) (a : Option Addr) (len cap : Nat) (w : World) :
    CallsIn F n Try.prog 58 #[.slice a len cap] w fun e w' => e = .returned (.func (.func 87) #[] #[.pointer (some ⟨w.heap.size, 0, none⟩)]) ∧ w' = w.alloc (.cells #[.slice a len cap] 26) := by
  refine callsIn_of_wp Try.func58 rfl h5 ?_ hro
  simp only [Try.ntmps58, List.size_toArray, List.length_cons, List.length_nil, Nat.reduceAdd, Nat.reduceSub, Array.replicate_succ, Array.replicate_zero, List.push_toArray, List.append_toArray, List.nil_append, List.cons_append]
  gi_wp2
  go_ret
  exact ⟨rfl, rfl⟩

theorem backward_stops (F : Fence) (n : Nat) (h7 : F.fn 87) (hro : F.round = none) (hn : 1 ≤ n) (Bs n₀ : Nat) (l : List (Int × Int)) (A : Option Addr) (cap : Nat) (hlen : l.length ≤ 100) (w : World) (hBs : Bs < w.heap.size) (hn₀ : n₀ ≤ w.heap.size)
    (hc : w.cell? ⟨Bs, 0, none⟩ = some (.slice A l.length cap)) (hI : ∀ k (h : k < l.length), ∃ g o, A = some ⟨g, o, none⟩ ∧ g < n₀ ∧ w.cell? ⟨g, o + k * 2, none⟩ = some (.int .i64 l[k].1) ∧ w.cell? ⟨g, o + k * 2 + 1, none⟩ = some (.int .i64 l[k].2)) :
    SeqStopsK F n Try.prog 87 #[.pointer (some ⟨Bs, 0, none⟩)] encMv (KpB n₀ Bs) (fun ys => ys = uptoF (fromEnd l) l.length)
      (fun pre => ∃ k, k ≤ l.length ∧ pre = uptoF (fromEnd l) k) l.length w := fun lp J Jx W hW _ _ hY h0 => by
  have hc' := (hW.cell (p := ⟨Bs, 0, none⟩) hBs).trans hc
  refine backward1_in F n h7 hro hn lp Bs n₀ l A cap hlen J Jx hY W hc' (fun k h => ?_) h0
  obtain ⟨g, o, e, hg, x, y⟩ := hI k h
  exact ⟨g, o, e, hg, (hW.cell (p := ⟨g, o + k * 2, none⟩) (Nat.lt_of_lt_of_le hg hn₀)).trans x, (hW.cell (p := ⟨g, o + k * 2 + 1, none⟩) (Nat.lt_of_lt_of_le hg hn₀)).trans y⟩

/-- What has been gathered is the exchange from its end. -/
def gath (p : List (Nat × (Int × Int))) : List (Int × Int) := p.map fun x => (x.2.2, x.2.1)
theorem gath_all (l : List (Int × Int)) : gath (uptoF (fromEnd l) l.length) = backL l := by
  apply List.ext_getElem
  · simp [gath, uptoF, backL]
  · intro i h1 h2
    have hi : i < l.length := by simpa [gath, uptoF] using h1
    have hb : l.length - 1 - i < l.length := by omega
    simp [gath, uptoF, backL, fromEnd, List.getElem_reverse, List.getElem?_eq_getElem hb]

set_option maxRecDepth 100000 in
set_option maxHeartbeats 4000000 in
theorem backExchange_yes (t g f : Int) (l : List (Int × Int)) (A : Option Addr) (c : Nat) (w : World) (h100 : l.length ≤ 100) (hat : MvIn w A l) (hx : isEx t g f l = true) (hR : boolOr (askM t g f l.length) (exB t g f l) = .tuple #[.bool true, .bool true]) :
    Calls Try.prog 25 #[.int .i64 t, .int .i64 g, .int .i64 f, .slice A l.length c] w (BackAns w (isEx t g f l) (backL l)) := by
  refine (callsIn_wide (n := 6)).1 ?_
  obtain ⟨i0, hi, hz0, hz1, hz2⟩ := info_parts Try.infoM
  have HA := Lib.hid hat
  have HR := Lib.hid hR
  have hX := Lib.hid hx
  clear hat hR hx
  refine callsIn_of_wp_marks Try.func25 rfl trivial ?_ rfl
  simp only [Try.ntmps25, List.size_toArray, List.length_cons, List.length_nil, Nat.reduceAdd, Nat.reduceSub, Array.replicate_succ, Array.replicate_zero, List.push_toArray, List.append_toArray, List.nil_append, List.cons_append]
  gi_wp2_with (first
    | (refine ⟨trivial, ?_⟩; gi_at_call 23; refine (callsIn_wide.2 (isExchange_any t g f l _ _ _ (by omega) HA.out)).mono ?_; rintro e w1 ⟨rfl, hb1⟩; rw [HR.out])
    | (refine ⟨trivial, ?_⟩; gi_at_call 58; refine (backward_in _ _ trivial rfl _ _ _ _).mono ?_; rintro e w2 ⟨rfl, rfl⟩))
  have bB := (Boxed.new w1 26 (.slice none 0 0)).alloc (.cells #[.slice A l.length c] 26)
  have bS := Boxed.new (w1.alloc (.cells #[.slice none 0 0] 26)) 26 (.slice A l.length c)
  simp only [World.size_alloc] at bS
  have hB0 : Below w1.heap.size w1 ((w1.alloc (.cells #[.slice none 0 0] 26)).alloc (.cells #[.slice A l.length c] 26)) := ((Below.refl _ w1).alloc (Nat.le_refl _) _).alloc (by simp) _
  have hsz : ((w1.alloc (.cells #[.slice none 0 0] 26)).alloc (.cells #[.slice A l.length c] 26)).heap.size = w1.heap.size + 2 := by simp
  have hI : ∀ k (h : k < l.length), ∃ g o, A = some ⟨g, o, none⟩ ∧ g < w1.heap.size ∧ ((w1.alloc (.cells #[.slice none 0 0] 26)).alloc (.cells #[.slice A l.length c] 26)).cell? ⟨g, o + k * 2, none⟩ = some (.int .i64 l[k].1) ∧ ((w1.alloc (.cells #[.slice none 0 0] 26)).alloc (.cells #[.slice A l.length c] 26)).cell? ⟨g, o + k * 2 + 1, none⟩ = some (.int .i64 l[k].2) := by
    intro k h
    obtain ⟨gg, o, e, hg, x, y⟩ := (HA.out.below hb1) k h
    exact ⟨gg, o, e, hg, (hB0.cell (p := ⟨gg, o + k * 2, none⟩) hg).trans x, (hB0.cell (p := ⟨gg, o + k * 2 + 1, none⟩) hg).trans y⟩
  obtain ⟨W0, hW0⟩ : ∃ W0, ((w1.alloc (.cells #[.slice none 0 0] 26)).alloc (.cells #[.slice A l.length c] 26)) = W0 := ⟨_, rfl⟩
  rw [hW0] at bB bS hB0 hsz hI ⊢
  clear hW0
  have hbz := hb1.size
  refine wpIn_rangeFunc_ownH rfl (by omega) (gf := 87) (lb := #[.pointer (some ⟨w1.heap.size + 1, 0, none⟩)]) rfl trivial (enters_of Try.func87 (by kernel_rfl) rfl)
    (backward_stops Fence.wide (6 - 1) trivial rfl (by omega) (w1.heap.size + 1) w1.heap.size l A c h100 W0 (by omega) (by omega) bS.cell hI) (fun h k => h.trans k) (KpB.put (by omega)) (Below.refl _ _) (fun _ => rfl)
    (fun pre W => ((∃ v, Boxed W w1.heap.size 26 v ∧ W.ownsRow w1.heap.size 53 2 v pre.length (flat (gath pre)) ∧ True) ∧ Boxed W (w1.heap.size + 1) 26 (.slice A l.length c)) ∧ Below w1.heap.size w1 W)
    (fun _ _ _ => False)
    (OwnFrom.and (OwnFrom.and (Own.from (holdsRow_own _ _ _ _ _ _ _ (fun _ _ => True)) _) (Own.from (boxed_own _ _ (fun _ => Value.slice A l.length c)) _)) (ownFrom_below (Nat.le_refl _) (by omega)))
    (fun _ _ _ _ _ hs _ _ => hs)
    ⟨⟨⟨_, bB, World.ownsRow_nil _ _ _ _, trivial⟩, bS⟩, hB0⟩
    (fun x a' W => ∃ Bx, Box2 W Bx x.2.1 x.2.2 ∧ a' = { tmps := #[.int .i64 t, .int .i64 g, .int .i64 f, .slice A l.length c, undef, undef, undef, undef, .slice none 0 0, .bool false, .bool true, .bool true, .pointer (some ⟨w1.heap.size, 0, none⟩), undef, .pointer (some ⟨Bx, 0, none⟩), .tuple #[.bool true, .bool true], .int .i64 t, .int .i64 g, .int .i64 f, .slice A l.length c, .tuple #[.bool true, .bool true], .bool true, .bool true, .bool true, .bool false, .bool false, .bool true, .bool false, .bool false, .slice A l.length c, .func (.func 87) #[] #[.pointer (some ⟨w1.heap.size + 1, 0, none⟩)], .int .i64 (x.1 : Int), .agg #[.int .i64 x.2.1, .int .i64 x.2.2], undef, undef, undef, undef, undef, undef, undef, undef, undef], defers := [] })
    (fun x a' _ X Y row hs hg hr => by obtain ⟨Bx, h2, h3⟩ := hs; exact ⟨Bx, h2.kept hg (fun e' => by obtain ⟨_, o, ho, hc⟩ := hr Bx e'.symm; rw [show X.heap[Bx]? = _ from h2] at ho; cases ho; cases hc), h3⟩)
    ?assign ?body ?done ?stop
  case assign =>
    rintro lp pre x W K ⟨⟨⟨v, hv, hrow, _⟩, bN⟩, hB⟩ hK
    gi_wp2
    exact hK _ _ ((KeepsOthers.alloc _ _).from _) ⟨(Below.refl _ W).alloc hB.size _, fun v e => (cell_kept e (World.grownBy_alloc W _ none) (by simp))⟩ ⟨⟨⟨v, hv.alloc _, hrow.alloc _, trivial⟩, bN.alloc _⟩, hB.alloc hB.size _⟩ ⟨W.heap.size, Box2.new W _ _, rfl⟩
  case body =>
    rintro lp pre x a' W hl ⟨r, hr⟩ ⟨⟨⟨v, hv, hrow, _⟩, bN⟩, hB⟩ ⟨Bx, bX, rfl⟩ hlt
    have c12 := hv.cell
    have m0 := bX.cell0
    have m1 := bX.cell1
    have hbW := hB.size
    have H2 : ∀ u ∈ [Value.int .i64 x.2.2, Value.int .i64 x.2.1], u.oneCell' = true := fun u hu => by simp at hu; rcases hu with rfl | rfl <;> rfl
    have H3 : pre.length + 1 ≤ maxLen := by unfold maxLen; omega
    have H4 : (pre.length + 1) * 16 ≤ 140737488355328 := by omega
    have H5 : w1.heap.size ≤ (W.alloc (Obj.cells #[.int .i64 x.2.2, .int .i64 x.2.1] 53)).heap.size := by simp; omega
    gi_wp2_with (gi_at_builtin; refine wpListIn_append_own _ rfl _ _ 26 rfl w1.heap.size 53 i0 (.agg #[.int .i64 0, .int .i64 0]) 2 16 Try.underlying26 hi hz0 hz1 hz2 rfl (by decide) _ _ _ rfl (hrow.alloc _) ⟨W.heap.size, 0, none⟩ 1 1 [.int .i64 x.2.2, .int .i64 x.2.1] rfl rfl (cell_two_new _ _ _ _) H2 H3 H4 H5 ?_; intro v' w2 hown' hgrow _; obtain ⟨g', cap', rfl⟩ := ownsRow_succ hown'; obtain ⟨hv1, hv2, hr2, hk2, hb2⟩ := hv.appended (by decide) hrow hbW (Nat.le_refl _) hown' hgrow; have hc1 := hv1.cell; have hf1 := hv1.frozen)
    have hg2 : (W.alloc (Obj.cells #[Value.int IntKind.i64 x.2.2, Value.int IntKind.i64 x.2.1] 53)).grownBy w2 v.ownBlock := hgrow
    have bN2 := ((bN.alloc (Obj.cells #[Value.int IntKind.i64 x.2.2, Value.int IntKind.i64 x.2.1] 53)).kept hg2 (bN.not_row (by decide) hrow)).other (B' := w1.heap.size) (by omega) (Value.slice (some ⟨g', 0, none⟩) (pre.length + 1) cap')
    have hlen : (pre ++ [x]).length = pre.length + 1 := by simp
    have hfl : flat (gath (pre ++ [x])) = flat (gath pre) ++ [Value.int IntKind.i64 x.2.2, Value.int IntKind.i64 x.2.1] := by simp [gath, flat]
    refine ⟨hk2.from _, ⟨hb2, fun u e => ?_⟩, ⟨⟨_, hv2, ?_, trivial⟩, bN2⟩, hB.trans hb2⟩
    · have e1 := bN.cell
      rw [e] at e1
      injection e1 with e1
      rw [e1]
      exact bN2.cell
    · rw [hlen, hfl]
      exact hr2
  case done =>
    rintro D ys W hD rfl ⟨⟨⟨v, hv, hrow, _⟩, bN⟩, hB⟩ hK
    have c12 := hv.cell
    gi_wp2
    refine ⟨by simp, .inl ⟨_, _, rfl, run_takeDeferred hK, ?_⟩⟩
    refine ⟨_, results_tmp2 rfl _ _ _, ?_⟩
    have hlen : (uptoF (fromEnd l) l.length).length = (backL l).length := by rw [uptoF_length, backL_len]
    rw [gath_all, hlen] at hrow
    have ho := own_lower (ownsRow_putObj hrow (.deferred none) hK rfl) hbz
    have hBB := (hb1.trans (hB.mono hbz)).trans ((belowK_b (w := w1) (Nat.le_refl _) W D _ (.deferred none) (by omega) hK rfl rfl).mono hbz)
    rw [hX.out]
    exact ⟨v, rfl, ho, hBB⟩
  case stop =>
    rintro D cc pre W _ _ h _
    exact h.elim

set_option maxHeartbeats 1000000 in
theorem backExchange_any (t g f : Int) (l : List (Int × Int)) (A : Option Addr) (c : Nat) (w : World) (hn : l.length ≤ 2000000) (hat : MvIn w A l) :
    Calls Try.prog 25 #[.int .i64 t, .int .i64 g, .int .i64 f, .slice A l.length c] w (BackAns w (isEx t g f l) (backL l)) := by
  cases hx : isEx t g f l
  · have hN : ∃ b0 b1 : Bool, boolOr (askM t g f l.length) (exB t g f l) = .tuple #[.bool b0, .bool b1] ∧ (b0 && b1) = false := by
      unfold isEx at hx
      cases ha : askM t g f l.length
      · exact ⟨false, false, rfl, rfl⟩
      · rw [ha] at hx
        exact ⟨exB t g f l, true, rfl, by simpa using hx⟩
    obtain ⟨b0, b1, hR, hb⟩ := hN
    have HA := Lib.hid hat
    have HR := Lib.hid hR
    clear hat hR hx
    cases b0
    · clear hb
      go_enter Try.func25, Try.ntmps25
      go_wp2_with fail
      refine (isExchange_any t g f l _ _ _ hn HA.out).mono ?_
      rintro e w1 ⟨rfl, hb1⟩
      rw [HR.out]
      go_wp2
      go_ret2
      exact ⟨_, rfl, World.ownsRow_nil _ _ _ _, hb1⟩
    · obtain rfl : b1 = false := by simpa using hb
      clear hb
      go_enter Try.func25, Try.ntmps25
      go_wp2_with fail
      refine (isExchange_any t g f l _ _ _ hn HA.out).mono ?_
      rintro e w1 ⟨rfl, hb1⟩
      rw [HR.out]
      go_wp2
      go_ret2
      exact ⟨_, rfl, World.ownsRow_nil _ _ _ _, hb1⟩
  · have ha : askM t g f l.length = true := by unfold isEx at hx; rw [Bool.and_eq_true] at hx; exact hx.1
    have he : exB t g f l = true := by unfold isEx at hx; rw [Bool.and_eq_true] at hx; exact hx.2
    have := backExchange_yes t g f l A c w (askM_in ha).2 hat hx (by rw [boolOr_yes _ _ ha, he])
    rwa [hx] at this
end Go.Proofs.Yticdhapbkfbhjaa
