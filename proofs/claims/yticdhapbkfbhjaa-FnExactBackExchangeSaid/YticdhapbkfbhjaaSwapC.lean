/- Contracts: an exchange told from its end, the model's. -/
import Derived.Test.YticdhapbkfbhjaaSwapB
import Derived.Deep.RegionHeld3
import Derived.Deep.AppendLies
import Derived.IntWalk
namespace Go.Proofs.Yticdhapbkfbhjaa
open Go.RowKit

/-- Moves in the other order, each told back. -/
def backL (l : List (Int × Int)) : List (Int × Int) := (l.map fun p => (p.2, p.1)).reverse
theorem backL_len (l : List (Int × Int)) : (backL l).length = l.length := by simp [backL]
theorem backL_cons (p : Int × Int) (l : List (Int × Int)) : backL (p :: l) = backL l ++ [(p.2, p.1)] := by simp [backL]
theorem backL_drop (l : List (Int × Int)) (m : Nat) (h : m < l.length) : backL (l.drop m) = backL (l.drop (m + 1)) ++ [(l[m].2, l[m].1)] := by
  rw [List.drop_eq_getElem_cons h, backL_cons]

/-- A list of moves in memory of the call's own. -/
def RowAns (w : World) (l : List (Int × Int)) (e : Ending) (w' : World) : Prop :=
  ∃ v, e = .returned v ∧ w'.ownsRow w.heap.size 53 2 v l.length (flat l) ∧ Below w.heap.size w w'

set_option maxRecDepth 100000 in
set_option maxHeartbeats 4000000 in
theorem swBack_any (l : List (Int × Int)) (A : Option Addr) (c : Nat) (w : World) (hat : MvIn w A l) (hl : l.length ≤ 100) :
    Calls Try.prog 57 #[.slice A l.length c] w (RowAns w (backL l)) := by
  obtain ⟨i0, hi, hz0, hz1, hz2⟩ := info_parts Try.infoM
  have HI := Lib.hid hi
  have HZ0 := Lib.hid hz0
  have HZ1 := Lib.hid hz1
  have HZ2 := Lib.hid hz2
  have HN := Lib.hid hat
  clear hi hz0 hz1 hz2 hat
  go_enter Try.func57, Try.ntmps57
  go_wp2
  go_loopw [3, 4] (fun x i wr => ∃ (j : Nat) (z : Int) (v : Value), v = x ∧ j ≤ l.length ∧ i = .int .i64 z ∧ z = (j : Int) - 1 ∧ wr.ownsRow w.heap.size 53 2 v (l.length - j) (flat (backL (l.drop j))) ∧ Below w.heap.size w wr) (fun _ i _ => (intOf i + 1).toNat)
  case atStart => exact ⟨l.length, _, _, rfl, Nat.le_refl _, rfl, rfl, by rw [List.drop_length, Nat.sub_self]; exact World.ownsRow_nil _ _ _ _, Below.refl _ _⟩
  case round =>
    obtain ⟨j, z, v, rfl, hj, rfl, hz, hown, hB⟩ := hrel
    rcases Nat.eq_zero_or_pos j with rfl | hpos
    · obtain rfl : z = -1 := by omega
      clear hz
      go_wp2
      go_ret
      rw [Nat.sub_zero, List.drop_zero] at hown
      exact ⟨_, rfl, by rw [backL_len]; exact hown, hB⟩
    · obtain ⟨m, rfl⟩ : ∃ m, j = m + 1 := ⟨j - 1, by omega⟩
      obtain rfl : z = (m : Int) := by omega
      clear hz
      obtain ⟨g, o, rfl, hg, d0, d1⟩ := HN.out m (by omega)
      have hbz := hB.size
      have c0 : wr.cell? ⟨g, o + m * 2, none⟩ = some (.int .i64 l[m].1) := (hB.cell (p := ⟨g, o + m * 2, none⟩) hg).trans d0
      have c1 : wr.cell? ⟨g, o + m * 2 + 1, none⟩ = some (.int .i64 l[m].2) := (hB.cell (p := ⟨g, o + m * 2 + 1, none⟩) hg).trans d1
      have hS := Lib.hid (backL_drop l m (by omega))
      generalize l[m].1 = a at c0 hS d0
      generalize l[m].2 = b at c1 hS d1
      have i1 : (0 : Int) ≤ (m : Int) := by omega
      have i2 : (m : Int) < (l.length : Int) := by omega
      have ag : v.ownBlock ≠ some g := by
        intro e
        have := (hown.lt g e).1
        omega
      have hgr : g < wr.heap.size := by omega
      have H4 : (l.length - (m + 1) + 1) * 16 ≤ 140737488355328 := by omega
      have H3 : l.length - (m + 1) + 1 ≤ maxLen := by unfold maxLen; omega
      have hwrap : IntKind.i64.wrap ((m : Int) - 1) = (m : Int) - 1 := IntWalk.i64_in _ (by omega)
      clear d0 d1
      go_wp2_with fail
      go_region_held3 (fun w' => w'.cell? ⟨g, o + m * 2, none⟩ = some (.int .i64 a) ∧ w'.cell? ⟨g, o + m * 2 + 1, none⟩ = some (.int .i64 b))
        (first
          | go_keep
          | (go_split_ands
             refine ⟨?_, ?_⟩
             · (rw [hgrow.cell_far _ (by simp; omega) (Ne.symm ag)]; assumption)
             · (rw [hgrow.cell_far _ (by simp; omega) (Ne.symm ag)]; assumption)))
        ((refine step_append_lies _ (by rfl) _ _ _ (by rfl) w.heap.size 53 i0 _ 2 16 Try.underlying26 HI.out HZ0.out HZ1.out HZ2.out rfl (by omega) v _ _ (by rfl) ((hown.alloc _).drew)
            ⟨wr.heap.size, 0, none⟩ 1 1 [.int .i64 b, .int .i64 a] (by rfl) (by rfl) (World.news_of_block (cs := #[.int .i64 b, .int .i64 a]) (t := 53) (fr := (0, 0)) (heap_alloc_new wr _)) (by simp [Value.oneCell'])
            (by omega) H3 H4 (by simp; omega) (wr.heap.size + 1) (by simp) ?_; intro gg cap w1 hown1 hgrow hat hlt))
      have hbs : w.heap.size ≤ ((wr.alloc (Obj.cells #[Value.int IntKind.i64 b, Value.int IntKind.i64 a] 53)).drew).heap.size := by simp; omega
      have hB2 : Below w.heap.size w w1 := ((hB.alloc hbz (Obj.cells #[Value.int IntKind.i64 b, Value.int IntKind.i64 a] 53)).drew).grown hgrow hbs fun j ej => (hown.lt j ej).1
      have hown2 : w1.ownsRow w.heap.size 53 2 (Value.slice (some ⟨gg, 0, none⟩) (l.length - (m + 1) + 1) cap) (l.length - m) (flat (backL (l.drop m))) := by
        rw [hS.out, flat_app, show l.length - m = l.length - (m + 1) + 1 by omega]
        exact hown1
      clear hwrap hgrow hown hB hown1 hbs c0 c1 hat hlt
      go_wp2
      go_roundw
      case rel => exact ⟨m, _, _, rfl, by omega, rfl, rfl, hown2, hB2⟩
      case measure => simp [intOf]

theorem own_lower {w : World} {b b' : Nat} {e : TypeId} {size n : Nat} {v : Value} {xs : List Value} (h : w.ownsRow b e size v n xs) (hle : b' ≤ b) : w.ownsRow b' e size v n xs := by
  refine ⟨h.1, ?_⟩
  rcases h.2 with h2 | ⟨g, cap, cur, e1, hb, r⟩
  · exact .inl h2
  · exact .inr ⟨g, cap, cur, e1, Nat.le_trans hle hb, r⟩

/-- The answer: the moves of the exchange from its end, or none. -/
def BackAns (w : World) (c : Bool) (l : List (Int × Int)) (e : Ending) (w' : World) : Prop :=
  ∃ v, e = .returned (.tuple #[v, .bool c]) ∧ w'.ownsRow w.heap.size 53 2 v (if c then l else []).length (flat (if c then l else [])) ∧ Below w.heap.size w w'
/-- Moves that are an exchange. -/
def isEx (t g f : Int) (l : List (Int × Int)) : Bool := askM t g f l.length && exB t g f l
theorem isEx_no1 {t g f : Int} {l : List (Int × Int)} (h : askM t g f l.length = false) : isEx t g f l = false := by simp [isEx, h]
theorem isEx_of {t g f : Int} {l : List (Int × Int)} (h : askM t g f l.length = true) : isEx t g f l = exB t g f l := by simp [isEx, h]
theorem askM_in {t g f : Int} {n : Nat} (h : askM t g f n = true) : few t g f = true ∧ n ≤ 100 := by
  unfold askM at h
  rw [Bool.and_eq_true] at h
  exact ⟨h.1, by simpa using h.2⟩

set_option maxHeartbeats 1000000 in
theorem sBackExchange_any (t g f : Int) (l : List (Int × Int)) (A : Option Addr) (c : Nat) (w : World) (hn : l.length ≤ 2000000) (hat : MvIn w A l) :
    Calls Try.prog 24 #[.int .i64 t, .int .i64 g, .int .i64 f, .slice A l.length c] w (BackAns w (isEx t g f l) (backL l)) := by
  have HA := Lib.hid hat
  clear hat
  cases hc : askM t g f l.length
  · have hC := Lib.hid hc
    have hR := Lib.hid (isEx_no1 hc)
    clear hc
    go_enter Try.func24, Try.ntmps24
    go_wp2_with fail
    refine (swMoves_any _ _ _ _ _ _ _ hn).mono ?_
    rintro e w1 ⟨rfl, hb1⟩
    rw [hC.out]
    go_wp2
    go_ret2
    rw [hR.out]
    exact ⟨_, rfl, World.ownsRow_nil _ _ _ _, hb1⟩
  · obtain ⟨hf, h100⟩ := askM_in hc
    have hC := Lib.hid hc
    have HF := Lib.hid hf
    have hR := Lib.hid (isEx_of hc)
    clear hc hf
    cases hx : exB t g f l
    · have hX := Lib.hid hx
      clear hx
      go_enter Try.func24, Try.ntmps24
      go_wp2_with fail
      refine (swMoves_any _ _ _ _ _ _ _ hn).mono ?_
      rintro e w1 ⟨rfl, hb1⟩
      rw [hC.out]
      have HA1 := Lib.hid (HA.out.below hb1)
      go_wp2_with fail
      refine (swIs_any t g f l _ _ _ HF.out h100 HA1.out).mono ?_
      rintro e w2 ⟨rfl, hb2⟩
      rw [hX.out]
      have hB := hb1.trans (hb2.mono hb1.size)
      clear hb1 hb2 HA1 HA
      go_wp2
      go_ret2
      rw [hR.out, hX.out]
      exact ⟨_, rfl, World.ownsRow_nil _ _ _ _, hB⟩
    · have hX := Lib.hid hx
      clear hx
      go_enter Try.func24, Try.ntmps24
      go_wp2_with fail
      refine (swMoves_any _ _ _ _ _ _ _ hn).mono ?_
      rintro e w1 ⟨rfl, hb1⟩
      rw [hC.out]
      have HA1 := Lib.hid (HA.out.below hb1)
      go_wp2_with fail
      refine (swIs_any t g f l _ _ _ HF.out h100 HA1.out).mono ?_
      rintro e w2 ⟨rfl, hb2⟩
      rw [hX.out]
      have hB := hb1.trans (hb2.mono hb1.size)
      have HA2 := Lib.hid (HA1.out.below hb2)
      clear hb1 hb2 HA1 HA
      go_wp2_with fail
      refine (swBack_any l _ _ _ HA2.out h100).mono ?_
      rintro e w3 ⟨v, rfl, ho3, hb3⟩
      have hB3 := hB.trans (hb3.mono hB.size)
      have ho := own_lower ho3 hB.size
      clear ho3 hb3 hB HA2
      go_wp2
      go_ret2
      rw [hR.out, hX.out]
      exact ⟨_, rfl, ho, hB3⟩
end Go.Proofs.Yticdhapbkfbhjaa
