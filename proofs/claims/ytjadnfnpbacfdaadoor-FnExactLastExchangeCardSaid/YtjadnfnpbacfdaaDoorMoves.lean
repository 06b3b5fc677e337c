/- Contracts: all moves on a line, the program's. -/
import Derived.Test.YtjadnfnpbacfdaaDoorMoveE
namespace Go.Proofs.YtjadnfnpbacfdaaDoor
open Go.RowKit

theorem Tryd.infoM : (Tryd.prog.info? 64).map (fun i => (i.zero, i.size, i.bytes)) = some (some (.agg #[.int .i64 0, .int .i64 0]), 2, 16) := by kernel_rfl

/-- Pairs of numbers, cell by cell. -/
def flat (l : List (Int × Int)) : List Value := l.flatMap fun p => [.int .i64 p.1, .int .i64 p.2]
theorem flat_len (l : List (Int × Int)) : (flat l).length = l.length * 2 := by
  induction l with
  | nil => rfl
  | cons p l ih => simp only [flat, List.flatMap_cons, List.length_append, List.length_cons, List.length_nil] at ih ⊢; omega
theorem flat_app (a b : List (Int × Int)) : flat (a ++ b) = flat a ++ flat b := by simp [flat]

/-- The moves that are wanted, of the first k cells. -/
def mvsTo (wd : Int → Int → Bool) (s : ByteArray) : Nat → List (Int × Int)
  | 0 => []
  | k + 1 => mvsTo wd s k ++ if wd k (mvTo s k) then [((k : Int), mvTo s k)] else []
theorem mvsTo_le (wd : Int → Int → Bool) (s : ByteArray) (k : Nat) : (mvsTo wd s k).length ≤ k := by
  induction k with
  | zero => simp [mvsTo]
  | succ k ih => simp only [mvsTo, List.length_append]; split <;> simp <;> omega

theorem grown_of_below {w w' : World} (h : Below w.heap.size w w') : w.grownBy w' none := ⟨h.os, h.tape, h.output, h.size, fun k hk _ => h.block k hk⟩
theorem own_below {w w' : World} {base : Nat} {e : TypeId} {size n : Nat} {v : Value} {xs : List Value} (h : w.ownsRow base e size v n xs) (hb : Below w.heap.size w w') : w'.ownsRow base e size v n xs :=
  h.kept (grown_of_below hb) (by cases v.ownBlock <;> simp)
theorem cell_two_new (w : World) (a b : Value) (t : TypeId) : ∀ j u, [a, b][j]? = some u → (w.alloc (.cells #[a, b] t)).cell? ((⟨w.heap.size, 0, none⟩ : Addr).add j) = some u := by
  intro j u h
  rw [addr_add, World.cell?_alloc_new]
  simpa using h

/-- The answer: a list of moves in memory of the call's own. -/
def MvPost (w : World) (l : List (Int × Int)) (e : Ending) (w' : World) : Prop :=
  ∃ v, e = .returned (.tuple #[v, .bool true]) ∧ w'.ownsRow w.heap.size 64 2 v l.length (flat l) ∧ Below w.heap.size w w'

set_option maxRecDepth 100000 in
set_option maxHeartbeats 2000000 in
theorem movesWhere_can (s : ByteArray) (w : World) (hg : goodL s = true) (hs : s.size ≤ maxLen) :
    Calls Tryd.prog 134 #[.string s, .func (.func 124) #[] #[]] w (MvPost w (mvsTo (canM s) s s.size)) := by
  obtain ⟨i0, hi, hz0, hz1, hz2⟩ := info_parts Tryd.infoM
  have HI := Lib.hid hi
  have HZ0 := Lib.hid hz0
  have HZ1 := Lib.hid hz1
  have HZ2 := Lib.hid hz2
  clear hi hz0 hz1 hz2
  have hC := Lib.hid hg
  have h1 := good1000 hg
  obtain ⟨_, _, _⟩ := (goodL_iff s).1 hg
  clear hg
  go_enter Tryd.func134, Tryd.ntmps134
  go_wp2_with (go_at_call 106; refine (isLine_any _ _ hs).mono ?_; rintro e w' ⟨rfl, rfl⟩; rw [hC.out])
  go_loopw [6, 7, 8, 14] (fun v _ _ i wr => ∃ k : Nat, k ≤ s.size ∧ i = .int .i64 k ∧ wr.ownsRow w.heap.size 64 2 v (mvsTo (canM s) s k).length (flat (mvsTo (canM s) s k)) ∧ Below w.heap.size w wr) (fun _ _ _ i _ => s.size - (intOf i).toNat)
  case atStart => exact ⟨0, Nat.zero_le _, rfl, World.ownsRow_nil _ _ _ _, Below.refl _ _⟩
  case round =>
    obtain ⟨k, hk, rfl, hown, hB⟩ := hrel
    have hle := mvsTo_le (canM s) s k
    by_cases hlt : k < s.size
    · have hS : Hid (mvsTo (canM s) s (k + 1) = mvsTo (canM s) s k ++ if canM s k (mvTo s k) then [((k : Int), mvTo s k)] else []) := rfl
      generalize mvsTo (canM s) s k = L at hown hS hle
      go_wp2_with fail
      refine (moveFrom_any s k _ h1).mono ?_
      rintro e w1 ⟨rfl, hb1⟩
      have hown1 := own_below hown hb1
      have hB1 := hB.trans (hb1.mono hB.size)
      clear hown hB hb1
      go_wp2_with fail
      refine (canBeMade_any s k (mvTo s k) _ h1).mono ?_
      rintro e w2 ⟨rfl, hb2⟩
      have hown2 := own_below (hown1.alloc (plB k (mvTo s k) s)) hb2
      have hB2 := (hB1.alloc hB1.size (plB k (mvTo s k) s)).trans (hb2.mono (by have := hB1.size; simp; omega))
      obtain ⟨hcell, _⟩ := bcell hb2
      have hz := hb2.size
      have hz2 : w1.heap.size < w2.heap.size := by simp at hz; omega
      have d0 : w2.cell? ⟨w1.heap.size, 0, none⟩ = some (.int .i64 k) := by rw [hcell _ _ (by simp), World.cell?_alloc_new]; rfl
      have d1 : w2.cell? ⟨w1.heap.size, 1, none⟩ = some (.int .i64 (mvTo s k)) := by rw [hcell _ _ (by simp), World.cell?_alloc_new]; rfl
      have d2 : w2.cell? ⟨w1.heap.size, 2, none⟩ = some (.string s) := by rw [hcell _ _ (by simp), World.cell?_alloc_new]; rfl
      clear hown1 hB1 hb2 hcell hz
      cases hwd : canM s k (mvTo s k)
      · have HW := Lib.hid hwd
        clear hwd
        go_wp2
        go_roundw
        case rel => exact ⟨k + 1, by omega, by go_num, by rw [hS.out, HW.out]; simpa using hown2, hB2⟩
        case measure => simp [intOf]; omega
      · have HW := Lib.hid hwd
        clear hwd
        have H2 : ∀ x ∈ [Value.int .i64 (k : Int), Value.int .i64 (mvTo s k)], x.oneCell' = true := fun x hx => by simp at hx; rcases hx with rfl | rfl <;> rfl
        have H3 : L.length + 1 ≤ maxLen := by unfold maxLen; omega
        have H4 : (L.length + 1) * 16 ≤ 140737488355328 := by omega
        have H5 : w.heap.size ≤ (w2.alloc (mvB k (mvTo s k))).heap.size := by have := hB2.size; simp; omega
        go_wp2_with (first | (at_builtin; refine wpList_append_own _ rfl _ _ 22 rfl w.heap.size 64 i0 (.agg #[.int .i64 0, .int .i64 0]) 2 16 Tryd.underlying22 HI.out HZ0.out HZ1.out HZ2.out rfl (by decide) _ _ _ rfl (hown2.alloc _) ⟨w2.heap.size, 0, none⟩ 1 1 [.int .i64 k, .int .i64 (mvTo s k)] rfl rfl (cell_two_new _ _ _ _) H2 H3 H4 H5 ?_; intro v' w3 hown' hgrow _))
        go_roundw
        case rel =>
          refine ⟨k + 1, by omega, by go_num, ?_, ((hB2.alloc hB2.size (mvB k (mvTo s k))).grown hgrow H5 fun j hj => (hown2.lt _ hj).1)⟩
          rw [hS.out, HW.out, if_pos rfl, flat_app, List.length_append]
          exact hown'
        case measure => simp [intOf]; omega
    · go_wp2
      go_ret2
      obtain rfl : k = s.size := by omega
      exact ⟨_, rfl, hown, hB⟩

end Go.Proofs.YtjadnfnpbacfdaaDoor
