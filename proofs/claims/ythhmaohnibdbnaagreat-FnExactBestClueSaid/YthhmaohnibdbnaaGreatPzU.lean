/- Contracts: how many lines fit the first clues. -/
import Derived.Test.YthhmaohnibdbnaaGreatPzS
namespace Go.Proofs.YthhmaohnibdbnaaGreat
open Go.RowKit

/-- How many lines fit the first 0, 1, .. clues. -/
def lbI (n : Nat) (l : List Cl) (j : Nat) : Int := ((solL n (l.take j)).length : Int)
def lbL (n : Nat) (l : List Cl) (k : Nat) : List Int := (List.range k).map (lbI n l)
theorem lbL_next (n : Nat) (l : List Cl) (k : Nat) : lbL n l (k + 1) = lbL n l k ++ [lbI n l k] := by simp [lbL, List.range_succ]
theorem lbL_len (n : Nat) (l : List Cl) (k : Nat) : (lbL n l k).length = k := by simp [lbL]
def lbOr (n : Int) (l : List Cl) : List Int := if goodP n l then lbL n.toNat l (l.length + 1) else []
theorem lbOr_small (n : Int) (l : List Cl) : (lbOr n l).length ≤ 1000 := by
  unfold lbOr
  cases hg : goodP n l
  · simp
  · have h2 := goodP_few hg
    rw [if_pos rfl, lbL_len]
    omega
set_option maxRecDepth 100000 in
set_option maxHeartbeats 4000000 in
theorem sLeftByClues_any (n : Int) (l : List Cl) (g o c : Nat) (w : World) (hin : ClIn w (some ⟨g, o, none⟩) l) (hl : l.length ≤ 2000000) (hc : l.length ≤ c) (hc2 : c ≤ l.length) (hgo : g < w.heap.size) :
    Calls Tryz.prog 34 #[.agg #[.int .i64 n, .slice (some ⟨g, o, none⟩) l.length c]] w (ItxB w (goodP n l) (lbOr n l)) := by
  obtain ⟨W0, hW0⟩ : ∃ W0, W0 = w.alloc (Obj.cells #[.int .i64 n, .slice (some ⟨g, o, none⟩) l.length c] 31) := ⟨_, rfl⟩
  have hB0 : Below w.heap.size w W0 := by rw [hW0]; exact (Below.refl _ _).alloc (Nat.le_refl _) _
  have p0 : W0.cell? ⟨w.heap.size, 0, none⟩ = some (.int .i64 n) := by rw [hW0, cell_new' _ _ _ _ _ rfl]; rfl
  have p1 : W0.cell? ⟨w.heap.size, 1, none⟩ = some (.slice (some ⟨g, o, none⟩) l.length c) := by rw [hW0, cell_new' _ _ _ _ _ rfl]; rfl
  have hz : w.heap.size < W0.heap.size := by rw [hW0]; simp
  have HG := Lib.hid (pzGood_any n l (some ⟨g, o, none⟩) c W0 (hin.below hB0) hl)
  unfold lbOr
  cases hg : goodP n l
  · rw [hg] at HG
    clear hg
    go_enter Tryz.func34, Tryz.ntmps34
    go_wp2_with fail
    rw [← hW0]
    clear hW0
    refine HG.out.mono ?_
    rintro e w1 ⟨rfl, hb1⟩
    have HB := Lib.hid (hB0.trans (hb1.mono hB0.size))
    clear hb1
    go_wp2_with fail
    go_ret2
    exact ⟨_, rfl, World.ownsRow_nil _ _ _ _, HB.out⟩
  · rw [hg] at HG
    obtain ⟨m, rfl, h15⟩ := goodP_nat hg
    have hl6 := goodP_few hg
    obtain ⟨i0, hi, hz0, hz1, hz2⟩ := info_parts Tryz.infoN
    have II := Lib.hid hi
    have HZ0 := Lib.hid hz0
    have HZ1 := Lib.hid hz1
    have HZ2 := Lib.hid hz2
    clear hi hz0 hz1 hz2
    have HI := Lib.hid (hin.below hB0)
    have HPK := Lib.hid (fun k (hk : k ≤ l.length) A wx (h : ClIn wx A (l.take k)) (ho : ∀ a, A = some a → a.block < wx.heap.size) => by
      have h := pzAll_any m (l.take k) A c wx h15 (fun x hx => goodP_ok hg x (List.mem_of_mem_take hx)) (by rw [List.length_take]; omega) h ho
      rw [List.length_take, Nat.min_eq_left hk] at h
      exact h)
    rw [if_pos rfl, show (m : Int).toNat = m from rfl]
    clear hg hin hl
    go_enter Tryz.func34, Tryz.ntmps34
    go_wp2_with fail
    rw [← hW0]
    clear hW0
    refine HG.out.mono ?_
    rintro e w1 ⟨rfl, hb1⟩
    have HB1 := Lib.hid hb1
    clear hb1
    go_wp2_with fail
    go_loopw [4, 5] (fun v i wr => ∃ k : Nat, k ≤ l.length + 1 ∧ i = .int .i64 k ∧ wr.ownsRow W0.heap.size 3 1 v (lbL m l k).length (itx (lbL m l k)) ∧ Below W0.heap.size W0 wr) (fun _ i _ => l.length + 1 - (intOf i).toNat)
    case atStart => exact ⟨0, Nat.zero_le _, rfl, World.ownsRow_nil _ _ _ _, HB1.out⟩
    case round =>
      obtain ⟨k, hk, rfl, hown, hbr⟩ := hrel
      have r0 := ((bcell hbr).1 _ _ hz).trans p0
      have r1 := ((bcell hbr).1 _ _ hz).trans p1
      have zr := hbr.size
      by_cases hlt : k ≤ l.length
      · have i1 : (0 : Int) ≤ (k : Int) := by omega
        have i2 : (k : Int) ≤ (l.length : Int) := by omega
        have i3 : (k : Int) ≤ (c : Int) := by omega
        have HO := Lib.hid hown
        have HBR := Lib.hid hbr
        have HIR := Lib.hid ((HI.out.below hbr).take k)
        have HLL := Lib.hid (lbL_len m l k)
        have HNX := Lib.hid (lbL_next m l k)
        have HNB : Hid (lbI m l k = ((solL m (l.take k)).length : Int)) := Lib.hid rfl
        have HPKk := Lib.hid (HPK.out k hlt)
        generalize solL m (l.take k) = L2 at HPKk HNB
        generalize lbI m l k = xk at HNB HNX
        generalize lbL m l k = F at HO HNX HLL
        have hFl : F.length ≤ 7 := by have := HLL.out; omega
        clear hown hbr HPK
        go_wp2_with fail
        go_region_held3 (fun w' => w'.cell? ⟨w.heap.size, 0, none⟩ = some (.int .i64 m) ∧ w'.cell? ⟨w.heap.size, 1, none⟩ = some (.slice (some ⟨g, o, none⟩) l.length c)) (first | exact ⟨r0, r1⟩ | exact ⟨(hx2.cell (by simp; omega)).trans r0, (hx2.cell (by simp; omega)).trans r1⟩ | exact ⟨(hx3.cell (by simp; omega)).trans r0, (hx3.cell (by simp; omega)).trans r1⟩ | exact ⟨((bcell hx4).1 _ _ hz).trans p0, ((bcell hx4).1 _ _ hz).trans p1⟩) (first | (go_at_call 43; refine (HPKk.out _ _ (clin_drew HIR.out) (fun a ha => by injection ha with ha; subst ha; have := hB0.size; simp; omega)).mono ?_; rintro e wb ⟨vb, rfl, ob, hbb⟩; obtain ⟨Ab, cb, rfl, _, _, _, _⟩ := st_own ob; have hx2 := (Below.drew (Below.refl _ _)).trans hbb; have hs2 := hx2.size; have hx3 := hx2.alloc hs2 (Obj.cells #[.int .i64 (L2.length : Int)] 3); have O3 := (own_below HO.out hx2).alloc (Obj.cells #[.int .i64 (L2.length : Int)] 3); clear ob) | (refine step_append_own _ rfl _ _ 44 rfl W0.heap.size 3 i0 (.int .i64 0) 1 8 Tryz.underlying44 II.out HZ0.out HZ1.out HZ2.out rfl (by decide) u4 F.length (itx F) rfl O3 ⟨wb.heap.size, 0, none⟩ 1 1 [.int .i64 (L2.length : Int)] rfl rfl (cell_one_newP wb _ _) (fun u hu => by simp at hu; subst hu; rfl) (by unfold maxLen; omega) (by omega) (by simp; omega) ?_; intro v' w4 hown' hgrow; have hx4 : Below W0.heap.size W0 w4 := (HBR.out.trans (hx3.mono zr)).grown hgrow (by simp; omega) (fun j hj => (O3.lt j hj).1)))
        have HR := Lib.hid (And.intro hown' hx4)
        clear hown' hx4 hx2 hx3 O3 hgrow HO
        go_wp2_with fail
        go_roundw
        case rel =>
          refine ⟨k + 1, by omega, by go_num, ?_, HR.out.2⟩
          rw [HNX.out, List.length_append, itx_app, HNB.out]
          exact HR.out.1
        case measure => simp [intOf]; omega
      · obtain rfl : k = l.length + 1 := by omega
        have HR := Lib.hid (And.intro hown (hB0.trans (hbr.mono hB0.size)))
        clear hown hbr
        go_wp2_with fail
        go_ret2
        exact ⟨_, rfl, own_lowerC HR.out.1 (Nat.le_of_lt hz), HR.out.2⟩
end Go.Proofs.YthhmaohnibdbnaaGreat
