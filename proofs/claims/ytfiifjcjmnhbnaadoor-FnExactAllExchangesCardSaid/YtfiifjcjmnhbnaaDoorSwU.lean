/- The library's backward iterator over lines as arrays. -/
import Derived.Test.YtfiifjcjmnhbnaaDoorSwR
import Derived.RangeFuncNested
import Derived.RangeFuncBox
import Derived.RangeFuncLeaves
import Derived.Shelf.Abstract
import Derived.WalkKit
import Derived.OwnWalkIn
import Derived.TacticsInMore
import Derived.LoopNIn
import Derived.LoopIn
import Derived.Maps.AppendAt
import Derived.Maps.OwnIn
import Derived.Test.YtfiifjcjmnhbnaaDoorSwK
import Derived.DeepKeys
namespace Go.Proofs.YtfiifjcjmnhbnaaDoor
open Go.RowKit Go.Shelf

attribute [local go_sem] Oper.semAt_some

/-- What the k-th round is handed: an index and the line there, from the end on. -/
def fromEndW (L : List (List UInt8)) (k : Nat) : Nat × List UInt8 := (L.length - 1 - k, L.getD (L.length - 1 - k) [])
/-- What a round keeps: the row's block g and the box Bs. -/
def KpW (g Bs : Nat) (W W' : World) : Prop := ∀ b, b = g ∨ b = Bs → ∀ o, W.heap[b]? = some o → o.isCells = true → W'.heap[b]? = some o
theorem KpW.refl (g Bs : Nat) (W : World) : KpW g Bs W W := fun _ _ _ h _ => h
theorem KpW.trans {g Bs : Nat} {A B C : World} (h : KpW g Bs A B) (k : KpW g Bs B C) : KpW g Bs A C := fun b hb o h1 h2 => k b hb o (h b hb o h1 h2) h2
theorem KpW.put {g Bs : Nat} (W : World) (l : Nat) (o o' : Obj) (h : W.heap[l]? = some o) (h1 : o.isCells = false) : KpW g Bs W (W.putObj l o') := fun b _ o2 h2 h3 => by
  have hne : b ≠ l := fun e => by subst e; rw [h] at h2; injection h2 with h2; rw [← h2, h1] at h3; cases h3
  exact (World.putObj_heap_other hne).trans h2
theorem KpW.grown {g Bs : Nat} {W W' : World} {row : Option Nat} (hg : W.grownBy W' row) (h1 : some g ≠ row) (h2 : some Bs ≠ row) : KpW g Bs W W' := fun b hb o ho _ => by
  have hl := (Array.getElem?_eq_some_iff.1 ho).1
  exact (hg.block b hl (by rcases hb with rfl | rfl <;> assumption)).trans ho
theorem KpW.cell {g Bs : Nat} {W W' : World} {v : Value} {b o : Nat} (h : KpW g Bs W W') (hb : b = g ∨ b = Bs) (hc : W.cell? ⟨b, o, none⟩ = some v) : W'.cell? ⟨b, o, none⟩ = some v := by
  obtain ⟨ob, ho, hcells⟩ := cells_of_cell hc
  exact (World.cell?_of_block (a := ⟨b, o, none⟩) ((h b hb ob ho hcells).trans ho.symm)).trans hc
theorem KpW.rng {g Bs : Nat} {W W' : World} {o : Nat} {cs : List Value} (h : KpW g Bs W W') (hr : W.rangeAt g o cs) : W'.rangeAt g o cs := fun j v hv => h.cell (.inl rfl) (hr j v hv)
abbrev encW (x : Nat × List UInt8) : Array Value := #[.int .i64 (x.1 : Int), swpV x.2]
/-- What the round of a number is handed. -/
def encK (L : List (List UInt8)) (k : Nat) : Array Value := encW (fromEndW L k)
theorem encK_size (L : List (List UInt8)) (k : Nat) : (encK L k).size = 2 := rfl

set_option maxRecDepth 100000 in
set_option maxHeartbeats 4000000 in
theorem backwardW1_in (F : Fence) (n : Nat) (h7 : F.fn 57) (hro : F.round = none) (hn : 1 ≤ n) (lp Bs g : Nat) (L : List (List UInt8)) (h8 : ∀ x ∈ L, x.length ≤ 8) (cap : Nat) (hlen : L.length ≤ 59049) (J Jx : List Nat → World → Prop)
    (hY : ∀ pre x W, J pre W → pre.length < L.length → YieldAt F (n - 1) Tryd.prog lp (encK L x) W fun e W' =>
      (e = .returned (.bool true) ∧ J (pre ++ [x]) W' ∧ KpW g Bs W W') ∨ (e = .returned (.bool false) ∧ Jx (pre ++ [x]) W'))
    (W : World) (hBs : W.cell? ⟨Bs, 0, none⟩ = some (.slice (some ⟨g, 0, none⟩) L.length cap)) (hc : ∀ k (h : k < L.length), W.rangeAt g (k * 8) (u8s (swpP L[k]))) (h0 : J [] W) :
    CallsIn F n Tryd.prog 57 #[.func (.yield lp) #[] #[], .pointer (some ⟨Bs, 0, none⟩)] W fun e W' => (∃ v, e = .returned v) ∧
      ((∃ ys, ys = List.range L.length ∧ J ys W') ∨ (∃ pre, (∃ k, k ≤ L.length ∧ pre = List.range k) ∧ Jx pre W')) := by
  have HC := Lib.hid hc
  have HBS := Lib.hid hBs
  have H8 := Lib.hid h8
  clear hc h8
  refine callsIn_of_wp Tryd.func57 rfl h7 ?_ hro
  simp only [Tryd.ntmps57, List.size_toArray, List.length_cons, List.length_nil, Nat.reduceAdd, Nat.reduceSub, Array.replicate_succ, Array.replicate_zero, List.push_toArray, List.append_toArray, List.nil_append, List.cons_append]
  gi_wp2
  clear hBs
  gi_loopw [3] (fun i wr => ∃ (k : Nat) (z : Int), k ≤ L.length ∧ i = .int .i64 z ∧ z = (L.length : Int) - 1 - k ∧ J (List.range k) wr ∧ KpW g Bs W wr)
    (fun i _ => (intOf i + 1).toNat)
  case atStart => exact ⟨0, _, Nat.zero_le _, rfl, by omega, h0, KpW.refl _ _ _⟩
  case round =>
    obtain ⟨k, z, hk, rfl, hz, hJs, hK⟩ := hrel
    have cS : wr.cell? ⟨Bs, 0, none⟩ = some (.slice (some ⟨g, 0, none⟩) L.length cap) := hK.cell (.inr rfl) HBS.out
    by_cases hlt : k < L.length
    · obtain ⟨m, hm⟩ : ∃ m : Nat, m = L.length - 1 - k := ⟨_, rfl⟩
      obtain rfl : z = (m : Int) := by omega
      have hml : m < L.length := by omega
      have hr := hK.rng (HC.out m hml)
      have hfe : Hid (fromEndW L k = (m, L[m])) := by
        show _ = _
        unfold fromEndW
        rw [← hm, List.getD_eq_getElem?_getD, List.getElem?_eq_getElem hml]
        rfl
      have hl8 := H8.out L[m] (List.getElem_mem hml)
      generalize L[m] = x at hr hfe hl8
      obtain ⟨c0, c1, c2, c3, c4, c5, c6, c7, hc⟩ := eight_of hl8
      obtain ⟨q0, q1, q2, q3, q4, q5, q6, q7⟩ := hc.at hr
      have i1 : (0 : Int) ≤ (m : Int) := by omega
      have i2 : (m : Int) < (L.length : Int) := by omega
      obtain ⟨fn, tmps, assign, body, hy, hR⟩ := hY _ k wr hJs (by rw [List.length_range]; exact hlt)
      unfold encK at hy
      rw [hfe.out] at hy
      dsimp only [encW] at hy
      rw [hc.val] at hy
      have hmk := Lib.hid (show m + k + 1 = L.length by omega)
      clear hz hm hr hl8 hc
      gi_wp2
      refine hR.mono ?_
      rintro e W3 (⟨rfl, hJ3, hk3⟩ | ⟨rfl, hJx3⟩)
      · have hJ4 : J (List.range (k + 1)) W3 := by rw [List.range_succ]; exact hJ3
        have hK3 := hK.trans hk3
        have hwrap : (0 : Int) ≤ (m : Int) := i1
        clear hJ3 hk3 hJs hK cS hy hR q0 q1 q2 q3 q4 q5 q6 q7
        gi_wp2
        go_roundw
        case rel => exact ⟨k + 1, _, by omega, rfl, by have := hmk.out; omega, hJ4, hK3⟩
        case measure => simp [intOf]
      · have hJ4 : Jx (List.range (k + 1)) W3 := by rw [List.range_succ]; exact hJx3
        clear hy hR
        gi_wp2
        refine bodyPost_ret (results_none rfl _ _ _) rfl ?_
        exact ⟨⟨_, rfl⟩, .inr ⟨_, ⟨k + 1, by omega, rfl⟩, hJ4⟩⟩
    · obtain rfl : k = L.length := by omega
      obtain rfl : z = -1 := by omega
      clear hz
      gi_wp2
      go_end0
      exact ⟨⟨_, rfl⟩, .inl ⟨_, rfl, hJs⟩⟩

set_option maxHeartbeats 1000000 in
/-- The iterator's maker: the slice is boxed, the function value has the box. -/
theorem backwardW_in (F : Fence) (n : Nat) (h5 : F.fn 44) (hro : F.round = none) (a : Option Addr) (len cap : Nat) (w : World) :
    CallsIn F n Tryd.prog 44 #[.slice a len cap] w fun e w' => e = .returned (.func (.func 57) #[] #[.pointer (some ⟨w.heap.size, 0, none⟩)]) ∧ w' = w.alloc (.cells #[.slice a len cap] 79) := by
  refine callsIn_of_wp Tryd.func44 rfl h5 ?_ hro
  simp only [Tryd.ntmps44, List.size_toArray, List.length_cons, List.length_nil, Nat.reduceAdd, Nat.reduceSub, Array.replicate_succ, Array.replicate_zero, List.push_toArray, List.append_toArray, List.nil_append, List.cons_append]
  gi_wp2
  go_ret
  exact ⟨rfl, rfl⟩

theorem backwardW_stops (F : Fence) (n : Nat) (h7 : F.fn 57) (hro : F.round = none) (hn : 1 ≤ n) (Bs g : Nat) (L : List (List UInt8)) (h8 : ∀ x ∈ L, x.length ≤ 8) (cap : Nat) (hlen : L.length ≤ 59049) (w : World) (hBs : Bs < w.heap.size) (hg : g < w.heap.size)
    (hc : w.cell? ⟨Bs, 0, none⟩ = some (.slice (some ⟨g, 0, none⟩) L.length cap)) (hI : ∀ k (h : k < L.length), w.rangeAt g (k * 8) (u8s (swpP L[k]))) :
    SeqStopsK F n Tryd.prog 57 #[.pointer (some ⟨Bs, 0, none⟩)] (encK L) (KpW g Bs) (fun ys => ys = List.range L.length)
      (fun pre => ∃ k, k ≤ L.length ∧ pre = List.range k) L.length w := fun lp J Jx W hW _ _ hY h0 => by
  have hc' := (hW.cell (p := ⟨Bs, 0, none⟩) hBs).trans hc
  exact backwardW1_in F n h7 hro hn lp Bs g L h8 cap hlen J Jx hY W hc' (fun k h => rng_below8 (hI k h) hW hg) h0
end Go.Proofs.YtfiifjcjmnhbnaaDoor
namespace Go.Proofs.YtfiifjcjmnhbnaaDoor
open Go.RowKit Go.Maps

theorem keyL_eight {a : List UInt8} (h : a.length = 8) : Tryd.prog.keyLits 3 39 (Value.agg (u8s a).toArray).cells.toList = some (a.map fun x => Lit.int .u8 (x.toNat : Int)) := by
  obtain ⟨c0, c1, c2, c3, c4, c5, c6, c7, rfl⟩ := swp_eight h
  have hc : Tryd.prog.cellsOf 39 = 8 := by kernel_rfl
  have h2 : Tryd.prog.cellsOf 5 = 1 := by kernel_rfl
  simp only [Program.keyLits, Tryd.underlying39, Value.cells]
  simp [hc, h2, u8s, u8_wf8, Tryd.underlying5, List.range, List.range.loop]
theorem formed_eight {a : List UInt8} (h : a.length = 8) : (Value.agg (u8s a).toArray).formed Tryd.prog 39 = true := by
  have hc : Tryd.prog.cellsOf 39 = 8 := by kernel_rfl
  simp [Value.formed, Tryd.underlying39, hc, u8s, h]
theorem lits_inj8 : ∀ {a b : List UInt8}, (a.map fun x => Lit.int .u8 (x.toNat : Int)) = (b.map fun x => Lit.int .u8 (x.toNat : Int)) → a = b
  | [], [], _ => rfl
  | [], _ :: _, e => by simp at e
  | _ :: _, [], e => by simp at e
  | x :: a, y :: b, e => by
    rw [List.map_cons, List.map_cons] at e
    injection e with e1 e2
    injection e1 with _ e1
    rw [lits_inj8 e2, UInt8.toNat_inj.1 (by omega : x.toNat = y.toNat)]
set_option maxRecDepth 100000 in
theorem swp_eql {a b : List UInt8} (ha : a.length = 8) (hb : b.length = 8) (w : World) : (Op.equalIn 10000 39 (.agg (u8s a).toArray) (.agg (u8s b).toArray)).run Tryd.prog w = .ok (decide (a = b)) w := by
  obtain ⟨r, hr, hiff⟩ := run_equalIn_deep (P := Tryd.prog) 9997 3 39 (by kernel_rfl) w 3 3 _ _ _ _ (formed_eight ha) (formed_eight hb) (keyL_eight ha) (keyL_eight hb)
  rw [show (10000 : Nat) = 9997 + 3 from rfl, hr]
  congr 1
  rw [Bool.eq_iff_iff, hiff, decide_eq_true_iff]
  exact ⟨lits_inj8, fun e => by rw [e]⟩
/-- Two lines as arrays are one if the lines are. -/
theorem swV_eql {x y : List UInt8} (hx : G8 x) (hy : G8 y) (w : World) : (Op.equalIn 10000 39 (swpV x) (swpV y)).run Tryd.prog w = .ok (decide (x = y)) w := by
  have h := swp_eql (swpP_len hx.len) (swpP_len hy.len) w
  have e : decide (swpP x = swpP y) = decide (x = y) := by
    rw [decide_eq_decide]
    exact ⟨swpP_inj hx.nz hy.nz, fun e => by rw [e]⟩
  rw [e] at h
  exact h
end Go.Proofs.YtfiifjcjmnhbnaaDoor
