/- Contracts: who wins lines and sums, the program's. -/
import Derived.Test.YtecmeppkggifeaaGmW
namespace Go.Proofs.Ytecmeppkggifeaa
open Go.RowKit Go.Maps Go.Shelf

theorem SumG.sigT {L : Nat} {ls : List (List UInt8)} (h : SumG L ls) : sigT L (joinG ls) := ⟨h.len, joinG_sig ls h.good⟩

theorem winning_ex (L : Nat) (w : World) :
    Calls Try.prog 64 #[] w fun e w' => ∃ B Bt Br Bs, e = .returned (telV Bt Br Bs) ∧ TellI w' L B Bt Br Bs ∧ w.heap.size ≤ B ∧ Below w.heap.size w w' :=
  (winning_any L w).mono fun _ _ ⟨he, h1, h2⟩ => ⟨_, _, _, _, he, h1, Nat.le_succ _, h2⟩
set_option maxRecDepth 100000 in
set_option maxHeartbeats 4000000 in
theorem winsSum_any (ls : List (List UInt8)) (A : Option Addr) (cap : Nat) (tm : Bool) (w : World) (hA : StO w A ls) (hcap : ls.length ≤ cap) (hsz : ∀ x ∈ ls, x.length ≤ maxLen) :
    Calls Try.prog 35 #[.slice A ls.length cap, .bool tm] w fun e w' => e = .returned (boolOr (sumOk ls) (Wn tm (joinG ls))) ∧ Below w.heap.size w w' := by
  cases hf : sumOk ls
  · have HT := Lib.hid (turnOf_no tm ls A cap w hA hsz hf)
    clear hf hA
    go_enter Try.func35, Try.ntmps35
    go_wp2_with fail
    refine HT.out.mono ?_
    rintro e w1 ⟨rfl, hb1⟩
    go_wp2
    go_ret2
    exact ⟨rfl, hb1.alloc hb1.size _⟩
  · have HT := Lib.hid (turnOf_yes tm ls A cap w hA hcap hf)
    have hG := sumOk_sum hf
    have hL := hG.le
    have hsig := hG.sigT
    clear hf hA hG
    show Calls Try.prog 35 #[.slice A ls.length cap, .bool tm] w fun e w' => e = .returned (.tuple #[.bool (Wn tm (joinG ls)), .bool true]) ∧ Below w.heap.size w w'
    generalize hLL : (joinG ls).length = L at hL hsig
    clear hLL
    generalize joinG ls = y at HT hsig
    have HTE := Lib.hid (fun B Bt Br Bs wx h => tell_any L B Bt Br Bs hL _ tm y wx rfl hsig h)
    clear hsig
    go_enter Try.func35, Try.ntmps35
    go_wp2_with fail
    refine HT.out.mono ?_
    rintro e w1 ⟨rfl, hb1⟩
    have hbz := hb1.size
    go_wp2
    obtain ⟨W2, hW2⟩ : ∃ W2, W2 = w1.alloc (tnB tm y) := ⟨_, rfl⟩
    have c0 : W2.cell? ⟨w1.heap.size, 0, none⟩ = some (.string (str y)) := by rw [hW2, World.cell?_alloc_new]; rfl
    have c1 : W2.cell? ⟨w1.heap.size, 1, none⟩ = some (.int .u8 (kd tm).toNat) := by rw [hW2, World.cell?_alloc_new]; rfl
    have hz2 : W2.heap.size = w1.heap.size + 1 := by rw [hW2]; simp
    have HB2 : Hid (Below w.heap.size w W2) := by rw [hW2]; exact Lib.hid (hb1.alloc hbz _)
    have hz : w1.heap.size < W2.heap.size := by omega
    rw [← hW2]
    clear hW2
    go_region_held3 (fun w' => w'.cell? ⟨w1.heap.size, 0, none⟩ = some (.string (str y)) ∧ w'.cell? ⟨w1.heap.size, 1, none⟩ = some (.int .u8 (kd tm).toNat)) (first | exact ⟨c0, c1⟩ | exact ⟨(hb3.cell hz).trans c0, (hb3.cell hz).trans c1⟩ | exact ⟨(hk4.cell (Nat.lt_of_lt_of_le hz hb3.size) (Nat.ne_of_lt hzB)).trans ((hb3.cell hz).trans c0), (hk4.cell (Nat.lt_of_lt_of_le hz hb3.size) (Nat.ne_of_lt hzB)).trans ((hb3.cell hz).trans c1)⟩) (first | (go_at_call 64; refine (winning_ex L _).mono ?_; rintro e w3 ⟨B, Bt, Br, Bs, rfl, hI3, hBB, hb3⟩; have hzB := Nat.lt_of_lt_of_le hz hBB) | (go_at_call 119; refine (HTE.out _ _ _ _ _ hI3).mono ?_; rintro e w4 ⟨rfl, hI4, hk4⟩))
    go_wp2
    go_ret2
    refine ⟨rfl, ?_⟩
    have e1 := (Below.drew HB2.out).trans (hb3.mono (by simp; omega))
    simp at hBB
    exact e1.trans (hk4.to_below (by omega) e1.size)
set_option maxHeartbeats 1000000 in
theorem winsMoving_any (wl : List UInt8) (tm : Bool) (w : World) (hs : (str wl).size ≤ maxLen) :
    Calls Try.prog 19 #[.string (str wl), .bool tm] w fun e w' => e = .returned (boolOr (fewB (str wl)) (Wn tm wl)) ∧ Below w.heap.size w w' := by
  have HW := Lib.hid (winsSum_any [wl] (some ⟨w.heap.size, 0, none⟩) 1 tm _ (one_slice w wl) (by simp) (fun x hx => by simp at hx; subst hx; rw [str_size] at hs; exact hs))
  rw [sumOk_one] at HW
  show Calls Try.prog 19 #[.string (str wl), .bool tm] w fun e w' => e = .returned (boolOr (fewB (str wl)) (Wn tm (joinG [wl]))) ∧ Below w.heap.size w w'
  generalize Wn tm (joinG [wl]) = r at HW
  cases hf : fewB (str wl)
  all_goals
    rw [hf] at HW
    clear hf
    unfold boolOr at HW
    go_enter Try.func19, Try.ntmps19
    go_wp2_with fail
    refine HW.out.mono ?_
    rintro e w1 ⟨rfl, hb1⟩
    go_wp2
    go_ret2
    exact ⟨rfl, ((Below.refl _ w).alloc (Nat.le_refl _) _).trans (hb1.mono (by simp))⟩
end Go.Proofs.Ytecmeppkggifeaa
