/- Contracts: outcomes of lines and sums, the program's. -/
import Derived.Test.YtecmeppkggifeaaGmX
namespace Go.Proofs.Ytecmeppkggifeaa
open Go.RowKit Go.Maps Go.Shelf

/-- The outcome's index out of who wins. -/
def outI (a b : Bool) : Int := if a && b then 0 else if a then 3 else if b then 2 else 1

set_option maxRecDepth 100000 in
set_option maxHeartbeats 4000000 in
theorem outcomeOf_no (Bt Br Bs : Nat) (ls : List (List UInt8)) (A : Option Addr) (cap : Nat) (w : World) (hA : StO w A ls) (hsz : ∀ x ∈ ls, x.length ≤ maxLen) (hf : sumOk ls = false) :
    Calls Try.prog 70 #[telV Bt Br Bs, .slice A ls.length cap] w fun e w' => e = .returned (.tuple #[.int .i64 0, .bool false]) ∧ Below w.heap.size w w' := by
  have HT := Lib.hid (turnOf_no true ls A cap w hA hsz hf)
  clear hf hA
  go_enter Try.func70, Try.ntmps70
  go_wp2_with fail
  refine HT.out.mono ?_
  rintro e w1 ⟨rfl, hb1⟩
  go_wp2
  go_ret2
  exact ⟨rfl, hb1.alloc hb1.size _⟩
set_option maxRecDepth 100000 in
set_option maxHeartbeats 4000000 in
theorem outcomeOf_yes (L B Bt Br Bs : Nat) (ls : List (List UInt8)) (A : Option Addr) (cap : Nat) (w : World) (hL : (joinG ls).length = L) (hA : StO w A ls) (hcap : ls.length ≤ cap) (hf : sumOk ls = true) (hI : TellI w L B Bt Br Bs) :
    Calls Try.prog 70 #[telV Bt Br Bs, .slice A ls.length cap] w fun e w' => e = .returned (.tuple #[.int .i64 (outI (Wn true (joinG ls)) (Wn false (joinG ls))), .bool true]) ∧ TellI w' L B Bt Br Bs ∧ KpM B w w' := by
  have hTA : ∀ tm wx, StO wx A ls → Calls Try.prog 62 #[.bool tm, .slice A ls.length cap] wx fun e w' => e = .returned (.tuple #[.agg #[.string (str (joinG ls)), .int .u8 (kd tm).toNat], .bool true]) ∧ Below wx.heap.size wx w' := fun tm wx h => turnOf_yes tm ls A cap wx h hcap hf
  have hG := sumOk_sum hf
  have hL12 := hG.le
  have hsig := hG.sigT
  rw [hL] at hL12 hsig
  have HA := Lib.hid hA
  have HI := Lib.hid hI
  have hBl := hI.map.lt
  have hTE : ∀ tm wx, TellI wx L B Bt Br Bs → Calls Try.prog 119 #[.agg #[.string (str (joinG ls)), .int .u8 (kd tm).toNat], .pointer (some ⟨Bt, 0, none⟩), .pointer (some ⟨Br, 0, none⟩), .pointer (some ⟨Bs, 0, none⟩)] wx fun e w' => e = .returned (.bool (Wn tm (joinG ls))) ∧ TellI w' L B Bt Br Bs ∧ KpM B wx w' := fun tm wx h => tell_any L B Bt Br Bs hL12 _ tm (joinG ls) wx rfl hsig h
  clear hf hA hG hI hL hsig
  have HTA := Lib.hid (hTA true)
  have HTB := Lib.hid (hTA false)
  have HT1 := Lib.hid (hTE true)
  have HT2 := Lib.hid (hTE false)
  clear hTA hTE
  generalize Wn true (joinG ls) = a at HT1 ⊢
  generalize Wn false (joinG ls) = b at HT2 ⊢
  generalize (kd true).toNat = c1 at HTA HT1
  generalize (kd false).toNat = c2 at HTB HT2
  generalize str (joinG ls) = y at HTA HTB HT1 HT2
  cases a <;> cases b
  all_goals
    go_enter Try.func70, Try.ntmps70
    go_wp2_with fail
    refine (HTA.out _ HA.out).mono ?_
    rintro e w1 ⟨rfl, hb1⟩
    have hA1 := (HA.out.below hb1).below ((Below.refl _ w1).alloc (Nat.le_refl _) (Obj.cells #[.string y, .int .u8 c1] 67))
    have hz1 := hb1.size
    go_wp2_with fail
    refine (HTB.out _ hA1).mono ?_
    rintro e w2 ⟨rfl, hb2⟩
    have hz2 := hb2.size
    simp at hz2
    obtain ⟨W3, hW3⟩ : ∃ W3, W3 = w2.alloc (Obj.cells #[.string y, .int .u8 c2] 67) := ⟨_, rfl⟩
    have c60 : W3.cell? ⟨w1.heap.size, 0, none⟩ = some (.string y) := by rw [hW3, cell_old _ _ _ _ (by omega), hb2.cell (p := ⟨w1.heap.size, 0, none⟩) (by simp), World.cell?_alloc_new]; rfl
    have c61 : W3.cell? ⟨w1.heap.size, 1, none⟩ = some (.int .u8 c1) := by rw [hW3, cell_old _ _ _ _ (by omega), hb2.cell (p := ⟨w1.heap.size, 1, none⟩) (by simp), World.cell?_alloc_new]; rfl
    have c80 : W3.cell? ⟨w2.heap.size, 0, none⟩ = some (.string y) := by rw [hW3, World.cell?_alloc_new]; rfl
    have c81 : W3.cell? ⟨w2.heap.size, 1, none⟩ = some (.int .u8 c2) := by rw [hW3, World.cell?_alloc_new]; rfl
    have hz3 : W3.heap.size = w2.heap.size + 1 := by rw [hW3]; simp
    have HB3 : Hid (Below w.heap.size w W3) := by
      rw [hW3]
      exact Lib.hid (((hb1.alloc hz1 _).trans (hb2.mono (by simp; omega))).alloc (by omega) _)
    have HI3 : TellI W3 L B Bt Br Bs := HI.out.below HB3.out
    have z6 : w1.heap.size < W3.heap.size := by omega
    have z8 : w2.heap.size < W3.heap.size := by omega
    have n6 : w1.heap.size ≠ B := by omega
    have n8 : w2.heap.size ≠ B := by omega
    clear hb1 hb2 hA1
    go_wp2
    rw [← hW3]
    clear hW3
    go_region_held3 (fun w' => w'.cell? ⟨w1.heap.size, 0, none⟩ = some (.string y) ∧ w'.cell? ⟨w1.heap.size, 1, none⟩ = some (.int .u8 c1) ∧ w'.cell? ⟨w2.heap.size, 0, none⟩ = some (.string y) ∧ w'.cell? ⟨w2.heap.size, 1, none⟩ = some (.int .u8 c2)) (first | exact ⟨c60, c61, c80, c81⟩ | exact ⟨(hk4.cell z6 n6).trans c60, (hk4.cell z6 n6).trans c61, (hk4.cell z8 n8).trans c80, (hk4.cell z8 n8).trans c81⟩ | exact ⟨((hk4.trans hk5).cell z6 n6).trans c60, ((hk4.trans hk5).cell z6 n6).trans c61, ((hk4.trans hk5).cell z8 n8).trans c80, ((hk4.trans hk5).cell z8 n8).trans c81⟩) (first | (go_at_call 119; with_reducible refine (HT1.out _ (by first | exact HI3.below (Below.drew (Below.refl _ _)) | exact HI3.below (below_drewN (Below.refl _ _) _) | exact HI3)).mono ?_; rintro e w4 ⟨rfl, hI4, hk4⟩) | (go_at_call 119; with_reducible refine (HT2.out _ hI4).mono ?_; rintro e w5 ⟨rfl, hI5, hk5⟩))
    go_wp2
    go_ret2
    exact ⟨rfl, hI5, (KpM.below (Below.drew HB3.out)).trans (hk4.trans hk5)⟩

set_option maxRecDepth 100000 in
set_option maxHeartbeats 4000000 in
theorem outcomeOfSum_any (ls : List (List UInt8)) (A : Option Addr) (cap : Nat) (w : World) (hA : StO w A ls) (hcap : ls.length ≤ cap) (hsz : ∀ x ∈ ls, x.length ≤ maxLen) :
    Calls Try.prog 38 #[.slice A ls.length cap] w fun e w' => e = .returned (strOr (sumOk ls) [outC (Wn true (joinG ls)) (Wn false (joinG ls))]) ∧ Below w.heap.size w w' := by
  have HA := Lib.hid hA
  have HW := Lib.hid (fun wx => winning_ex (joinG ls).length wx)
  cases hf : sumOk ls
  · have HO := Lib.hid (fun Bt Br Bs wx h => outcomeOf_no Bt Br Bs ls A cap wx h hsz hf)
    clear hf hA
    go_enter Try.func38, Try.ntmps38
    go_wp2_with fail
    refine (HW.out _).mono ?_
    rintro e w1 ⟨B, Bt, Br, Bs, rfl, _, _, hb1⟩
    go_wp2_with fail
    refine (HO.out _ _ _ _ (HA.out.below hb1)).mono ?_
    rintro e w2 ⟨rfl, hb2⟩
    go_wp2
    go_ret2
    exact ⟨rfl, hb1.trans (hb2.mono hb1.size)⟩
  · have hO : ∀ B Bt Br Bs wx, StO wx A ls → TellI wx (joinG ls).length B Bt Br Bs → Calls Try.prog 70 #[telV Bt Br Bs, .slice A ls.length cap] wx fun e w' => e = .returned (.tuple #[.int .i64 (outI (Wn true (joinG ls)) (Wn false (joinG ls))), .bool true]) ∧ KpM B wx w' := fun B Bt Br Bs wx h1 h2 => (outcomeOf_yes _ B Bt Br Bs ls A cap wx rfl h1 hcap hf h2).mono fun _ _ ⟨a, _, c⟩ => ⟨a, c⟩
    clear hf hA
    show Calls Try.prog 38 #[.slice A ls.length cap] w fun e w' => e = .returned (.tuple #[.string (str [outC (Wn true (joinG ls)) (Wn false (joinG ls))]), .bool true]) ∧ Below w.heap.size w w'
    have HO := Lib.hid hO
    clear hO
    generalize Wn true (joinG ls) = a at HO
    generalize Wn false (joinG ls) = b at HO
    cases a <;> cases b
    all_goals
      simp only [outI, Bool.and_true, Bool.and_false, Bool.and_self, if_true, if_false, Bool.false_eq_true] at HO
      go_enter Try.func38, Try.ntmps38
      go_wp2_with fail
      refine (HW.out _).mono ?_
      rintro e w1 ⟨B, Bt, Br, Bs, rfl, hI1, hBB, hb1⟩
      have HI1 := Lib.hid hI1
      clear hI1
      go_wp2_with fail
      refine (HO.out _ _ _ _ _ (HA.out.below hb1) HI1.out).mono ?_
      rintro e w2 ⟨rfl, hk2⟩
      go_wp2
      go_ret2
      exact ⟨rfl, hb1.trans (hk2.to_below hBB hb1.size)⟩
set_option maxHeartbeats 1000000 in
theorem outcomeOf_any (wl : List UInt8) (w : World) (hs : (str wl).size ≤ maxLen) :
    Calls Try.prog 21 #[.string (str wl)] w fun e w' => e = .returned (strOr (fewB (str wl)) [outC (Wn true wl) (Wn false wl)]) ∧ Below w.heap.size w w' := by
  have HW := Lib.hid (outcomeOfSum_any [wl] (some ⟨w.heap.size, 0, none⟩) 1 _ (one_slice w wl) (by simp) (fun x hx => by simp at hx; subst hx; rw [str_size] at hs; exact hs))
  rw [sumOk_one] at HW
  show Calls Try.prog 21 #[.string (str wl)] w fun e w' => e = .returned (strOr (fewB (str wl)) [outC (Wn true (joinG [wl])) (Wn false (joinG [wl]))]) ∧ Below w.heap.size w w'
  generalize [outC (Wn true (joinG [wl])) (Wn false (joinG [wl]))] = r at HW
  cases hf : fewB (str wl)
  all_goals
    rw [hf] at HW
    clear hf
    unfold strOr at HW
    go_enter Try.func21, Try.ntmps21
    go_wp2_with fail
    refine HW.out.mono ?_
    rintro e w1 ⟨rfl, hb1⟩
    go_wp2
    go_ret2
    exact ⟨rfl, ((Below.refl _ w).alloc (Nat.le_refl _) _).trans (hb1.mono (by simp))⟩
set_option maxRecDepth 100000 in
set_option maxHeartbeats 4000000 in
theorem isNothing_any (wl : List UInt8) (w : World) (hs : (str wl).size ≤ maxLen) :
    Calls Try.prog 40 #[.string (str wl)] w fun e w' => e = .returned (boolOr (fewB (str wl)) (!Wn true wl && !Wn false wl)) ∧ Below w.heap.size w w' := by
  have HW := Lib.hid (fun wx => winning_ex wl.length wx)
  have hsz : ∀ x ∈ [wl], x.length ≤ maxLen := fun x hx => by simp at hx; subst hx; rw [str_size] at hs; exact hs
  cases hf : fewB (str wl)
  · have HO := Lib.hid (fun Bt Br Bs (wx : World) => outcomeOf_no Bt Br Bs [wl] (some ⟨wx.heap.size, 0, none⟩) 1 _ (one_slice wx wl) hsz (by rw [sumOk_one]; exact hf))
    clear hf
    go_enter Try.func40, Try.ntmps40
    go_wp2_with fail
    refine (HW.out _).mono ?_
    rintro e w1 ⟨B, Bt, Br, Bs, rfl, _, _, hb1⟩
    go_wp2_with fail
    refine (HO.out _ _ _ w1).mono ?_
    rintro e w2 ⟨rfl, hb2⟩
    go_wp2
    go_ret2
    exact ⟨rfl, (hb1.alloc hb1.size _).trans (hb2.mono (by have := hb1.size; simp; omega))⟩
  · have hO : ∀ (B Bt Br Bs : Nat) (wx : World), TellI (wx.alloc (.cells #[.string (str wl)] 9)) wl.length B Bt Br Bs → Calls Try.prog 70 #[telV Bt Br Bs, .slice (some ⟨wx.heap.size, 0, none⟩) 1 1] (wx.alloc (.cells #[.string (str wl)] 9)) fun e w' => e = .returned (.tuple #[.int .i64 (outI (Wn true wl) (Wn false wl)), .bool true]) ∧ KpM B (wx.alloc (.cells #[.string (str wl)] 9)) w' := fun B Bt Br Bs wx h2 => (outcomeOf_yes wl.length B Bt Br Bs [wl] (some ⟨wx.heap.size, 0, none⟩) 1 _ rfl (one_slice wx wl) (by simp) (by rw [sumOk_one]; exact hf) h2).mono fun _ _ ⟨a, _, c⟩ => ⟨a, c⟩
    clear hf
    show Calls Try.prog 40 #[.string (str wl)] w fun e w' => e = .returned (.tuple #[.bool (!Wn true wl && !Wn false wl), .bool true]) ∧ Below w.heap.size w w'
    have HO := Lib.hid hO
    clear hO
    generalize Wn true wl = a at HO
    generalize Wn false wl = b at HO
    cases a <;> cases b
    all_goals
      simp only [outI, Bool.and_true, Bool.and_false, Bool.and_self, if_true, if_false, Bool.false_eq_true] at HO
      go_enter Try.func40, Try.ntmps40
      go_wp2_with fail
      refine (HW.out _).mono ?_
      rintro e w1 ⟨B, Bt, Br, Bs, rfl, hI1, hBB, hb1⟩
      have HI1 := Lib.hid (hI1.below ((Below.refl _ w1).alloc (Nat.le_refl _) (.cells #[.string (str wl)] 9)))
      have HB1 := Lib.hid (hb1.alloc hb1.size (.cells #[.string (str wl)] 9))
      clear hI1
      go_wp2_with fail
      refine (HO.out _ _ _ _ _ HI1.out).mono ?_
      rintro e w2 ⟨rfl, hk2⟩
      go_wp2
      go_ret2
      exact ⟨rfl, HB1.out.trans (hk2.to_below hBB HB1.out.size)⟩
end Go.Proofs.Ytecmeppkggifeaa
