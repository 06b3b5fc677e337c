/- Contracts: BestMoves: the program's. -/
import Derived.Test.YtflpncdnneapmaaBmB
namespace Go.Proofs.Ytflpncdnneapmaa
open Go.RowKit Go.Maps Go.Shelf

theorem KpN.cell {B n : Nat} {W W' : World} (h : KpN B n W W') {b o : Nat} (hb : b < W.heap.size) (hn : b < n) (hne : b ≠ B) : W'.cell? ⟨b, o, none⟩ = W.cell? ⟨b, o, none⟩ :=
  World.cell?_of_block (a := ⟨b, o, none⟩) (h.far b hne hn hb)
theorem KpN.to_below {B n k : Nat} {W W' : World} (h : KpN B n W W') (hB : k ≤ B) (hn : k ≤ n) (hk : k ≤ W.heap.size) : Below k W W' :=
  ⟨h.os, h.tape, h.output, h.size, fun i hi => h.far i (by omega) (by omega) (by omega)⟩
/-- What both sides answer. -/
def BvP (l : List (Int × Int)) (ok : Bool) (w : World) (e : Ending) (w' : World) : Prop :=
  ∃ v, e = .returned (.tuple #[v, .bool ok]) ∧ w'.ownsRow w.heap.size 31 2 v l.length (flat l) ∧ Below w.heap.size w w'
def bmL (tm : Bool) (wl : List UInt8) : List (Int × Int) := if fewB (str wl) = true then bestM tm wl else []
theorem few_sig {wl : List UInt8} (h : fewB (str wl) = true) : wl.length ≤ 12 ∧ sigT wl.length wl := by
  have hG := sumOk_sum (ls := [wl]) (by rw [sumOk_one]; exact h)
  exact ⟨hG.le, hG.sigT⟩
set_option maxRecDepth 100000 in
set_option maxHeartbeats 4000000 in
theorem bestMoves_any (wl : List UInt8) (tm : Bool) (w : World) (hs : (str wl).size ≤ maxLen) :
    Calls Try.prog 15 #[.string (str wl), .bool tm] w (BvP (bmL tm wl) (fewB (str wl)) w) := by
  cases hf : fewB (str wl)
  · have e0 : bmL tm wl = [] := by unfold bmL; rw [hf]; rfl
    have HT := Lib.hid (turnOf_no tm [wl] (some ⟨w.heap.size, 0, none⟩) 1 _ (one_slice w wl) (fun x hx => by simp at hx; subst hx; rw [str_size] at hs; exact hs) (by rw [sumOk_one]; exact hf))
    rw [e0]
    clear hf e0 hs
    go_enter Try.func15, Try.ntmps15
    go_wp2_with fail
    refine HT.out.mono ?_
    rintro e w1 ⟨rfl, hb1⟩
    have HB := Lib.hid (((Below.refl w.heap.size w).alloc (Nat.le_refl _) (.cells #[.string (str wl)] 9)).trans (hb1.mono (by simp)))
    have hz := HB.out.size
    clear hb1
    go_wp2
    go_ret2
    exact ⟨_, rfl, World.ownsRow_nil _ _ _ _, HB.out.alloc hz _⟩
  · have e0 : bmL tm wl = bestM tm wl := by unfold bmL; rw [if_pos hf]
    have HT : Hid (Calls Try.prog 37 #[.bool tm, .slice (some ⟨w.heap.size, 0, none⟩) 1 1] (w.alloc (.cells #[.string (str wl)] 9)) fun e w' => e = .returned (.tuple #[tnV tm wl, .bool true]) ∧ Below (w.alloc (.cells #[.string (str wl)] 9)).heap.size (w.alloc (.cells #[.string (str wl)] 9)) w') := Lib.hid (turnOf_yes tm [wl] (some ⟨w.heap.size, 0, none⟩) 1 _ (one_slice w wl) (by simp) (by rw [sumOk_one]; exact hf))
    obtain ⟨hL, hsig⟩ := few_sig hf
    have HTE := Lib.hid (fun B Bt Br Bs wx h => tnBest_any wl.length B Bt Br Bs tm wl wx hL hsig h)
    rw [e0]
    generalize bestM tm wl = M at *
    generalize wl.length = L at *
    clear hf e0 hs hsig
    go_enter Try.func15, Try.ntmps15
    go_wp2_with fail
    refine HT.out.mono ?_
    rintro e w1 ⟨rfl, hb1⟩
    have HB1 := Lib.hid (((Below.refl w.heap.size w).alloc (Nat.le_refl _) (.cells #[.string (str wl)] 9)).trans (hb1.mono (by simp)))
    have hbz := HB1.out.size
    clear hb1
    go_wp2
    obtain ⟨W2, hW2⟩ : ∃ W2, W2 = w1.alloc (tnB tm wl) := ⟨_, rfl⟩
    have c0 : W2.cell? ⟨w1.heap.size, 0, none⟩ = some (.string (str wl)) := by rw [hW2, World.cell?_alloc_new]; rfl
    have c1 : W2.cell? ⟨w1.heap.size, 1, none⟩ = some (.int .u8 (kd tm).toNat) := by rw [hW2, World.cell?_alloc_new]; rfl
    have hz2 : W2.heap.size = w1.heap.size + 1 := by rw [hW2]; simp
    have HB2 : Hid (Below w.heap.size w W2) := by rw [hW2]; exact Lib.hid (HB1.out.alloc hbz _)
    have hz : w1.heap.size < W2.heap.size := by omega
    rw [← hW2]
    clear hW2
    go_region_held3 (fun w' => w'.cell? ⟨w1.heap.size, 0, none⟩ = some (.string (str wl)) ∧ w'.cell? ⟨w1.heap.size, 1, none⟩ = some (.int .u8 (kd tm).toNat)) (first | exact ⟨c0, c1⟩ | exact ⟨(hb3.cell hz).trans c0, (hb3.cell hz).trans c1⟩ | exact ⟨(hk4.cell (Nat.lt_of_lt_of_le hz hb3.size) (Nat.lt_of_lt_of_le hz hb3.size) (Nat.ne_of_lt hzB)).trans ((hb3.cell hz).trans c0), (hk4.cell (Nat.lt_of_lt_of_le hz hb3.size) (Nat.lt_of_lt_of_le hz hb3.size) (Nat.ne_of_lt hzB)).trans ((hb3.cell hz).trans c1)⟩) (first | (go_at_call 39; refine (winning_ex L _).mono ?_; rintro e w3 ⟨B, Bt, Br, Bs, rfl, hI3, hBB, hb3⟩; have hzB := Nat.lt_of_lt_of_le hz hBB) | (go_at_call 38; refine (HTE.out _ _ _ _ _ hI3).mono ?_; rintro e w4 ⟨A4, c4, rfl, ho4, hI4, hk4⟩))
    all_goals
      go_wp2
      go_ret2
      have e1 := (Below.drew HB2.out).trans (hb3.mono (by simp; omega))
      simp at hBB
      have e2 := e1.size
      exact ⟨_, rfl, own_lowerD ho4 e2, e1.trans (hk4.to_below (by omega) e2 e2)⟩
end Go.Proofs.Ytflpncdnneapmaa
