/- Contract: the model's boMoves. -/
import Derived.Test.YtjnidfleccbdbaaDoorBdCn
import Derived.Test.YtjnidfleccbdbaaDoorMoves
namespace Go.Proofs.YtjnidfleccbdbaaDoor
open Go.RowKit

/-- The moves from a cell to the first k cells, in order. -/
def rowB (R : List (List UInt8)) (wd f k : Nat) : List (Int × Int) := ((List.range k).filter fun t : Nat => boC R wd (f : Int) (t : Int)).map fun t : Nat => ((f : Int), (t : Int))
/-- The moves from the first k cells. -/
def bmS (R : List (List UInt8)) (wd n k : Nat) : List (Int × Int) := (List.range k).flatMap fun f => rowB R wd f n
theorem rowB_next (R : List (List UInt8)) (wd f k : Nat) : rowB R wd f (k + 1) = rowB R wd f k ++ if boC R wd (f : Int) (k : Int) then [((f : Int), (k : Int))] else [] := by
  unfold rowB
  rw [List.range_succ, List.filter_append, List.map_append]
  congr 1
  cases h : boC R wd (f : Int) (k : Int) <;> simp [h]
theorem bmS_next (R : List (List UInt8)) (wd n k : Nat) : bmS R wd n (k + 1) = bmS R wd n k ++ rowB R wd k n := by
  unfold bmS; rw [List.range_succ, List.flatMap_append]; simp
theorem rowB_len (R : List (List UInt8)) (wd f : Nat) : ∀ k, (rowB R wd f k).length ≤ k
  | 0 => by simp [rowB]
  | k + 1 => by
    have := rowB_len R wd f k
    rw [rowB_next, List.length_append]
    split <;> simp <;> omega
theorem bmS_len (R : List (List UInt8)) (wd n : Nat) : ∀ k, (bmS R wd n k).length ≤ k * n
  | 0 => by simp [bmS]
  | k + 1 => by
    have a := bmS_len R wd n k
    have b := rowB_len R wd k n
    rw [bmS_next, List.length_append, Nat.add_mul]
    omega
theorem cell_two_newB (w : World) (a b : Value) (t : TypeId) : ∀ j u, [a, b][j]? = some u → (w.alloc (.cells #[a, b] t)).cell? ((⟨w.heap.size, 0, none⟩ : Addr).add j) = some u := by
  intro j u h
  rw [addr_add, World.cell?_alloc_new]
  simpa using h

set_option maxRecDepth 100000 in
set_option maxHeartbeats 4000000 in
theorem boMoves_any (R : List (List UInt8)) (wd : Nat) (A : Option Addr) (cap : Nat) (w : World) (hA : StAt w A R) (h1 : 1 ≤ R.length) (h5 : R.length ≤ 5) (hw1 : 1 ≤ wd) (hw5 : wd ≤ 5) (hl : ∀ r ∈ R, r.length = wd) :
    Calls Tryd.prog 44 #[.slice A R.length cap] w fun e w' => ∃ v, e = .returned v ∧ w'.ownsRow w.heap.size 46 2 v (bmS R wd (R.length * wd) (R.length * wd)).length (flat (bmS R wd (R.length * wd) (R.length * wd))) ∧ Below w.heap.size w w' := by
  have HCN := Lib.hid (fun f t wx (h : StAt wx A R) => boCan_any R wd A cap f t wx h h1 h5 hw1 hw5 hl)
  have HA := Lib.hid hA
  obtain ⟨g, rfl, hgw, hcell0⟩ := hA 0 h1
  have HS0 : Hid ((str (R[0]'h1)).size = wd) := Lib.hid (by rw [str_size]; exact hl _ (List.getElem_mem h1))
  generalize str (R[0]'h1) = s0 at hcell0 HS0
  have hsz : s0.size = wd := HS0.out
  have HRN := Lib.hid (rowB_next R wd)
  have HBN := Lib.hid (bmS_next R wd (R.length * wd))
  have HRL := Lib.hid (rowB_len R wd)
  have HBL := Lib.hid (bmS_len R wd (R.length * wd))
  obtain ⟨N, hN⟩ : ∃ N, N = R.length * wd := ⟨_, rfl⟩
  have hN25 : N ≤ 25 := by rw [hN]; exact Nat.mul_le_mul h5 hw5
  have hNi : (R.length : Int) * (wd : Int) = (N : Int) := by rw [hN]; push_cast; rfl
  have hwN : IntKind.i64.wrap (N : Int) = N := by rw [IntKind.wrap_i64]; omega
  rw [← hN] at HBN HBL ⊢
  obtain ⟨i0, hi, hz0, hz1, hz2⟩ := info_parts Tryd.infoM
  have II := Lib.hid hi
  have HZ0 := Lib.hid hz0
  have HZ1 := Lib.hid hz1
  have HZ2 := Lib.hid hz2
  clear hi hz0 hz1 hz2 hA hl hN HS0
  go_enter Tryd.func44, Tryd.ntmps44
  go_wp2_with fail
  clear hsz hcell0
  go_loopw [3, 5, 6, 7] (fun v i _ _ wr => ∃ f : Nat, f ≤ N ∧ i = .int .i64 f ∧ wr.ownsRow w.heap.size 46 2 v (bmS R wd N f).length (flat (bmS R wd N f)) ∧ Below w.heap.size w wr) (fun _ i _ _ _ => N - (intOf i).toNat)
  case atStart => exact ⟨0, Nat.zero_le _, rfl, World.ownsRow_nil _ _ _ _, Below.refl _ _⟩
  case round =>
    obtain ⟨f, hf, rfl, hown, hbr⟩ := hrel
    by_cases hlt : f < N
    · have i1 : (0 : Int) ≤ (f : Int) := by omega
      have i2 : (f : Int) < (N : Int) := by omega
      have HO := Lib.hid hown
      have HB := Lib.hid hbr
      have hbl : (bmS R wd N f).length ≤ 600 := by have := HBL.out f; have : f * N ≤ 24 * 25 := Nat.mul_le_mul (by omega) hN25; omega
      have HBNf := Lib.hid (HBN.out f)
      generalize bmS R wd N f = P at HO hbl HBNf
      clear hown hbr HBL HBN
      go_wp2_with fail
      go_loopw [3, 6, 7] (fun v i _ wq => ∃ t : Nat, t ≤ N ∧ i = .int .i64 t ∧ wq.ownsRow w.heap.size 46 2 v (P ++ rowB R wd f t).length (flat (P ++ rowB R wd f t)) ∧ Below w.heap.size w wq) (fun _ i _ _ => N - (intOf i).toNat)
      case atStart => exact ⟨0, Nat.zero_le _, rfl, by simpa [rowB] using HO.out, HB.out⟩
      case round =>
        obtain ⟨t, ht, rfl, hown, hbq⟩ := hrel
        by_cases htl : t < N
        · have j1 : (0 : Int) ≤ (t : Int) := by omega
          have j2 : (t : Int) < (N : Int) := by omega
          have HNX := Lib.hid (HRN.out f t)
          have hpl : (P ++ rowB R wd f t).length ≤ 625 := by have := HRL.out f t; rw [List.length_append]; omega
          have HCf := Lib.hid (HCN.out (f : Int) (t : Int))
          have HNX2 : Hid (P ++ rowB R wd f (t + 1) = (P ++ rowB R wd f t) ++ if boC R wd (f : Int) (t : Int) then [((f : Int), (t : Int))] else []) := Lib.hid (by rw [HNX.out, List.append_assoc])
          have HO2 := Lib.hid hown
          have HBQ := Lib.hid hbq
          have hzq := hbq.size
          have HAq := Lib.hid (HA.out.below (hbq.mono (Nat.le_refl _)))
          generalize P ++ rowB R wd f t = G at HO2 hpl HNX2
          clear hown hbq HNX
          obtain ⟨W1, hW1⟩ : ∃ W1, W1 = wr.alloc (Obj.cells #[.int .i64 f, .int .i64 t] 46) := ⟨_, rfl⟩
          have hb1 : Below wr.heap.size wr W1 := by rw [hW1]; exact (Below.refl _ _).alloc (Nat.le_refl _) _
          have hlt1 : wr.heap.size < W1.heap.size := by rw [hW1]; simp
          have c0 : W1.cell? ⟨wr.heap.size, 0, none⟩ = some (.int .i64 f) := by rw [hW1, World.cell?_alloc_new]; rfl
          have c1 : W1.cell? ⟨wr.heap.size, 1, none⟩ = some (.int .i64 t) := by rw [hW1, World.cell?_alloc_new]; rfl
          have HA1 := Lib.hid (HAq.out.below hb1)
          have HB1 := Lib.hid hb1
          cases hc : boC R wd (f : Int) (t : Int)
          · rw [hc] at HCf HNX2
            clear hc hb1
            go_wp2_with fail
            rw [← hW1]
            clear hW1
            refine (HCf.out _ HA1.out).mono ?_
            rintro e w2 ⟨rfl, hb2⟩
            have HBx := Lib.hid (HB1.out.trans (hb2.mono HB1.out.size))
            go_wp2_with fail
            exact ⟨⟨t + 1, by omega, by go_num, by rw [HNX2.out]; simpa using own_below HO2.out HBx.out, HBQ.out.trans (HBx.out.mono hzq)⟩, by simp [intOf]; omega⟩
          · rw [hc] at HCf HNX2
            clear hc hb1
            go_wp2_with fail
            rw [← hW1]
            clear hW1
            refine (HCf.out _ HA1.out).mono ?_
            rintro e w2 ⟨rfl, hb2⟩
            have d0 := ((bcell hb2).1 _ 0 hlt1).trans c0
            have d1 := ((bcell hb2).1 _ 1 hlt1).trans c1
            have HBx := Lib.hid (HB1.out.trans (hb2.mono HB1.out.size))
            have HOx := Lib.hid (own_below HO2.out HBx.out)
            have HBw := Lib.hid (HBQ.out.trans (HBx.out.mono hzq))
            have hz2 : w.heap.size ≤ w2.heap.size := HBw.out.size
            clear c0 c1 hb2
            go_wp2_with (first | (at_builtin; refine wpList_append_own _ rfl _ _ 38 rfl w.heap.size 46 i0 (.agg #[.int .i64 0, .int .i64 0]) 2 16 Tryd.underlying38 II.out HZ0.out HZ1.out HZ2.out rfl (by decide) _ G.length (flat G) rfl (HOx.out.alloc _) ⟨w2.heap.size, 0, none⟩ 1 1 [.int .i64 f, .int .i64 t] rfl rfl (cell_two_newB w2 _ _ _) (fun u hu => by simp at hu; rcases hu with rfl | rfl <;> rfl) (by unfold maxLen; omega) (by omega) (by simp; omega) ?_; intro v' w4 hown' hgrow _))
            have hrow := HOx.out.alloc (Obj.cells #[.int .i64 (f : Int), .int .i64 (t : Int)] 46)
            exact ⟨⟨t + 1, by omega, by go_num, by rw [HNX2.out]; simp only [if_true]; rw [List.length_append, flat_app]; exact hown', (HBw.out.alloc hz2 _).grown hgrow (by simp; omega) (fun j hj => (hrow.lt j hj).1)⟩, by simp [intOf]; omega⟩
        · obtain rfl : t = N := by omega
          have HO3 := Lib.hid (by rw [← HBNf.out] at hown; exact hown)
          have HB3 := Lib.hid hbq
          clear hown hbq
          go_wp2_with fail
          exact ⟨⟨f + 1, by omega, by go_num, HO3.out, HB3.out⟩, by simp [intOf]; omega⟩
    · obtain rfl : f = N := by omega
      have HO3 := Lib.hid hown
      have HB3 := Lib.hid hbr
      clear hown hbr
      go_wp2_with fail
      go_ret
      exact ⟨_, rfl, HO3.out, HB3.out⟩
end Go.Proofs.YtjnidfleccbdbaaDoor
