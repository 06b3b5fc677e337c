/- Contracts: who wins lines and sums, the model's. -/
import Derived.Test.YtecmeppkggifeaaGmV
namespace Go.Proofs.Ytecmeppkggifeaa
open Go.RowKit Go.Maps Go.Shelf

abbrev knB : Obj := Obj.cells #[.slice none 0 0, .slice none 0 0] 63
theorem sumOk_one (wl : List UInt8) : sumOk [wl] = fewB (str wl) := by
  unfold sumOk fewB
  rw [str_size]
  simp
theorem KnW.ex {W : World} {B L k : Nat} {ks : List (List UInt8)} (h : KnW W B L ks) (he : Ex B W k) : B ≤ k ∧ k < W.heap.size := by
  obtain ⟨bs, vs, vw, h⟩ := h
  exact h.ex_in k he
/-- What is known at a box that was just made, and something made behind it. -/
theorem new_box (w : World) (o : Obj) (L : Nat) : KnW ((w.alloc knB).alloc o) w.heap.size L [] ∧ ∀ k, Ex w.heap.size ((w.alloc knB).alloc o) k → k = w.heap.size := by
  have h0 := KnW.new w L
  have hb : Below (w.alloc knB).heap.size (w.alloc knB) ((w.alloc knB).alloc o) := (Below.refl _ _).alloc (Nat.le_refl _) _
  refine ⟨h0.below hb, fun k he => ?_⟩
  obtain ⟨bs, vs, vw, h⟩ := h0
  have h1 := h.ex_old hb he
  have h2 := (h.below hb).ex_in k he
  simp at h1
  omega
/-- A call of win, and what lies below its box. -/
theorem win_below (B L : Nat) (tm : Bool) (ls : List (List UInt8)) (A : Option Addr) (cap : Nat) (W : World) (ks : List (List UInt8)) (hs : SumG L ls) (hA : StO W A ls) (hx : ∀ a, A = some a → ¬ Ex B W a.block) (hK : KnW W B L ks) :
    Calls Try.prog 59 #[.pointer (some ⟨B, 0, none⟩), .slice A ls.length cap, .bool tm] W fun e W' => e = .returned (.bool (Wn tm (joinG ls))) ∧ (∃ ks', KnW W' B L ks') ∧ KpX B W W' ∧ Below B W W' := by
  refine (win_any _ B L tm ls A cap W ks rfl hs hA hx hK).mono ?_
  rintro e w' ⟨rfl, ks', h1, _, h3⟩
  have hB : B < W.heap.size := by obtain ⟨_, _, _, h⟩ := hK; exact h.lt
  exact ⟨rfl, ⟨ks', h1⟩, h3, h3.to_below (Nat.le_of_lt hB) fun k he => (hK.ex he).1⟩
theorem one_slice (w : World) (wl : List UInt8) : StO (w.alloc (.cells #[.string (str wl)] 9)) (some ⟨w.heap.size, 0, none⟩) [wl] := fun k hk => by
  obtain rfl : k = 0 := by simpa using hk
  exact ⟨w.heap.size, 0, rfl, by simp, by rw [World.cell?_alloc_new]; rfl⟩

set_option maxHeartbeats 2000000 in
theorem sWinsMoving_any (wl : List UInt8) (tm : Bool) (w : World) (hs : (str wl).size ≤ maxLen) :
    Calls Try.prog 18 #[.string (str wl), .bool tm] w fun e w' => e = .returned (boolOr (fewB (str wl)) (Wn tm wl)) ∧ Below w.heap.size w w' := by
  cases hf : fewB (str wl)
  · have HF := Lib.hid hf
    clear hf
    go_enter Try.func18, Try.ntmps18
    go_wp2_with (go_at_call 58; refine (gaFew_any _ _ hs).mono ?_; rintro e w' ⟨rfl, rfl⟩; rw [HF.out])
    go_ret2
    exact ⟨rfl, Below.refl _ _⟩
  · have HF := Lib.hid hf
    have hok : sumOk [wl] = true := by rw [sumOk_one]; exact hf
    have hG := sumOk_sum hok
    have HW : Hid (Calls Try.prog 59 #[.pointer (some ⟨w.heap.size, 0, none⟩), .slice (some ⟨w.heap.size + 1, 0, none⟩) 1 1, .bool tm] ((w.alloc knB).alloc (.cells #[.string (str wl)] 9)) fun e W' => e = .returned (.bool (Wn tm wl)) ∧ Below w.heap.size w W') := by
      obtain ⟨hK, hE⟩ := new_box w (.cells #[.string (str wl)] 9) wl.length
      have hA := one_slice (w.alloc knB) wl
      rw [World.size_alloc] at hA
      refine Lib.hid ((win_below w.heap.size wl.length tm [wl] (some ⟨w.heap.size + 1, 0, none⟩) 1 _ [] hG hA (fun a e he => ?_) hK).mono ?_)
      · injection e with e
        subst e
        have := hE _ he
        simp at this
      · rintro e w' ⟨rfl, _, _, hb⟩
        exact ⟨rfl, (((Below.refl _ w).alloc (Nat.le_refl _) _).alloc (by simp) _).trans hb⟩
    clear hf hok hG
    go_enter Try.func18, Try.ntmps18
    go_wp2_with (first | (go_at_call 58; refine (gaFew_any _ _ hs).mono ?_; rintro e w' ⟨rfl, rfl⟩; rw [HF.out]) | (go_at_call 59; refine HW.out.mono ?_; rintro e w2 ⟨rfl, hb2⟩))
    go_ret2
    exact ⟨rfl, hb2⟩
set_option maxHeartbeats 2000000 in
theorem sWinsSum_any (ls : List (List UInt8)) (A : Option Addr) (cap : Nat) (tm : Bool) (w : World) (hA : StO w A ls) (hAl : ∀ a, A = some a → a.block < w.heap.size) (hn : ls.length ≤ 2000000) (hsz : ∀ x ∈ ls, x.length ≤ maxLen) :
    Calls Try.prog 33 #[.slice A ls.length cap, .bool tm] w fun e w' => e = .returned (boolOr (sumOk ls) (Wn tm (joinG ls))) ∧ Below w.heap.size w w' := by
  have HS := Lib.hid (fun wx h => gaSum_any ls A cap wx h hn hsz)
  have HA := Lib.hid hA
  cases hf : sumOk ls
  · have HF := Lib.hid hf
    clear hf hA
    go_enter Try.func33, Try.ntmps33
    go_wp2_with (go_at_call 69; refine (HS.out _ HA.out).mono ?_; rintro e w' ⟨rfl, rfl⟩; rw [HF.out])
    go_ret2
    exact ⟨rfl, Below.refl _ _⟩
  · have HF := Lib.hid hf
    have hG := sumOk_sum hf
    have HW : Hid (Calls Try.prog 59 #[.pointer (some ⟨w.heap.size, 0, none⟩), .slice A ls.length cap, .bool tm] (w.alloc knB) fun e W' => e = .returned (.bool (Wn tm (joinG ls))) ∧ Below w.heap.size w W') := by
      have hb : Below w.heap.size w (w.alloc knB) := (Below.refl _ _).alloc (Nat.le_refl _) _
      have hK := KnW.new w (joinG ls).length
      refine Lib.hid ((win_below w.heap.size _ tm ls A cap _ [] hG (hA.below hb) (fun a e he => ?_) hK).mono ?_)
      · have := hAl a e
        have := (hK.ex he).1
        omega
      · rintro e w' ⟨rfl, _, _, hb2⟩
        exact ⟨rfl, hb.trans hb2⟩
    clear hf hG hA
    go_enter Try.func33, Try.ntmps33
    go_wp2_with (first | (go_at_call 69; refine (HS.out _ HA.out).mono ?_; rintro e w' ⟨rfl, rfl⟩; rw [HF.out]) | (go_at_call 59; refine HW.out.mono ?_; rintro e w2 ⟨rfl, hb2⟩))
    go_ret2
    exact ⟨rfl, hb2⟩

/-- The outcome out of who wins. -/
def outC (a b : Bool) : UInt8 := if a && b then 49 else if a then 84 else if b then 70 else 50
set_option maxHeartbeats 4000000 in
theorem gaOutcome_any (ls : List (List UInt8)) (A : Option Addr) (cap : Nat) (w : World) (hA : StO w A ls) (hAl : ∀ a, A = some a → a.block < w.heap.size) (hok : sumOk ls = true) :
    Calls Try.prog 60 #[.slice A ls.length cap] w fun e w' => e = .returned (.string (str [outC (Wn true (joinG ls)) (Wn false (joinG ls))])) ∧ Below w.heap.size w w' := by
  have hG := sumOk_sum hok
  have hb : Below w.heap.size w (w.alloc knB) := (Below.refl _ _).alloc (Nat.le_refl _) _
  have hK := KnW.new w (joinG ls).length
  have hA1 := hA.below hb
  have hx : ∀ a, A = some a → ¬ Ex w.heap.size (w.alloc knB) a.block := fun a e he => by
    have := hAl a e
    have := (hK.ex he).1
    omega
  have hBl : w.heap.size < (w.alloc knB).heap.size := by simp
  have HW1 := Lib.hid (win_below w.heap.size _ true ls A cap _ [] hG hA1 hx hK)
  have HW2 : Hid (∀ W, (∃ ks', KnW W w.heap.size (joinG ls).length ks') → KpX w.heap.size (w.alloc knB) W → Calls Try.prog 59 #[.pointer (some ⟨w.heap.size, 0, none⟩), .slice A ls.length cap, .bool false] W fun e W' => e = .returned (.bool (Wn false (joinG ls))) ∧ Below w.heap.size W W') := Lib.hid fun W ⟨ks', hK'⟩ hkp => by
    refine (win_below w.heap.size _ false ls A cap W ks' hG (hA1.kp hkp hx) (fun a e he => hx a e (hkp.ex _ (by have := hAl a e; omega) he)) hK').mono ?_
    rintro e w' ⟨rfl, _, _, hb⟩
    exact ⟨rfl, hb⟩
  clear hA hA1 hG hok hK hx
  generalize Wn true (joinG ls) = a at HW1
  generalize Wn false (joinG ls) = b at HW2
  cases a <;> cases b
  all_goals
    go_enter Try.func60, Try.ntmps60
    go_wp2_with fail
    refine HW1.out.mono ?_
    rintro e w1 ⟨rfl, hk1, hp1, hb1⟩
    have HK1 := Lib.hid hk1
    have HP1 := Lib.hid hp1
    have HB1 := Lib.hid hb1
    clear hk1 hp1 hb1
    go_wp2_with fail
    refine (HW2.out _ HK1.out HP1.out).mono ?_
    rintro e w2 ⟨rfl, hb2⟩
    go_wp2
    go_ret
    exact ⟨rfl, hb.trans (HB1.out.trans hb2)⟩
set_option maxHeartbeats 2000000 in
theorem sOutcomeOfSum_any (ls : List (List UInt8)) (A : Option Addr) (cap : Nat) (w : World) (hA : StO w A ls) (hAl : ∀ a, A = some a → a.block < w.heap.size) (hn : ls.length ≤ 2000000) (hsz : ∀ x ∈ ls, x.length ≤ maxLen) :
    Calls Try.prog 37 #[.slice A ls.length cap] w fun e w' => e = .returned (strOr (sumOk ls) [outC (Wn true (joinG ls)) (Wn false (joinG ls))]) ∧ Below w.heap.size w w' := by
  have HS := Lib.hid (fun wx h => gaSum_any ls A cap wx h hn hsz)
  have HA := Lib.hid hA
  cases hf : sumOk ls
  · have HF := Lib.hid hf
    clear hf hA
    go_enter Try.func37, Try.ntmps37
    go_wp2_with (go_at_call 69; refine (HS.out _ HA.out).mono ?_; rintro e w' ⟨rfl, rfl⟩; rw [HF.out])
    go_ret2
    exact ⟨rfl, Below.refl _ _⟩
  · have HF := Lib.hid hf
    have HO := Lib.hid (gaOutcome_any ls A cap w hA hAl hf)
    clear hf hA
    go_enter Try.func37, Try.ntmps37
    go_wp2_with (first | (go_at_call 69; refine (HS.out _ HA.out).mono ?_; rintro e w' ⟨rfl, rfl⟩; rw [HF.out]) | (go_at_call 60; refine HO.out.mono ?_; rintro e w2 ⟨rfl, hb2⟩))
    go_ret2
    exact ⟨rfl, hb2⟩
set_option maxHeartbeats 2000000 in
theorem sOutcomeOf_any (wl : List UInt8) (w : World) (hs : (str wl).size ≤ maxLen) :
    Calls Try.prog 20 #[.string (str wl)] w fun e w' => e = .returned (strOr (fewB (str wl)) [outC (Wn true wl) (Wn false wl)]) ∧ Below w.heap.size w w' := by
  cases hf : fewB (str wl)
  · have HF := Lib.hid hf
    clear hf
    go_enter Try.func20, Try.ntmps20
    go_wp2_with (go_at_call 58; refine (gaFew_any _ _ hs).mono ?_; rintro e w' ⟨rfl, rfl⟩; rw [HF.out])
    go_ret2
    exact ⟨rfl, Below.refl _ _⟩
  · have HF := Lib.hid hf
    have HO := Lib.hid (gaOutcome_any [wl] (some ⟨w.heap.size, 0, none⟩) 1 _ (one_slice w wl) (fun a e => by injection e with e; subst e; simp) (by rw [sumOk_one]; exact hf))
    clear hf
    go_enter Try.func20, Try.ntmps20
    go_wp2_with (first | (go_at_call 58; refine (gaFew_any _ _ hs).mono ?_; rintro e w' ⟨rfl, rfl⟩; rw [HF.out]) | (go_at_call 60; refine HO.out.mono ?_; rintro e w2 ⟨rfl, hb2⟩))
    go_ret2
    exact ⟨rfl, ((Below.refl _ w).alloc (Nat.le_refl _) _).trans (hb2.mono (by simp))⟩
/-- Whether an outcome is a second one's win. -/
theorem outC_two (a b : Bool) : ((str [outC a b]).toList == [50]) = (!a && !b) := by
  have h := same_str [outC a b] [50]
  have e : (str [50]).toList = [50] := by rw [Lib.toList_data]; rfl
  rw [e] at h
  rw [h]
  cases a <;> cases b <;> decide
set_option maxHeartbeats 2000000 in
theorem sIsNothing_any (wl : List UInt8) (w : World) (hs : (str wl).size ≤ maxLen) :
    Calls Try.prog 39 #[.string (str wl)] w fun e w' => e = .returned (boolOr (fewB (str wl)) (!Wn true wl && !Wn false wl)) ∧ Below w.heap.size w w' := by
  cases hf : fewB (str wl)
  · have HF := Lib.hid hf
    clear hf
    go_enter Try.func39, Try.ntmps39
    go_wp2_with (go_at_call 58; refine (gaFew_any _ _ hs).mono ?_; rintro e w' ⟨rfl, rfl⟩; rw [HF.out])
    go_ret2
    exact ⟨rfl, Below.refl _ _⟩
  · have HF := Lib.hid hf
    have HO := Lib.hid (gaOutcome_any [wl] (some ⟨w.heap.size, 0, none⟩) 1 _ (one_slice w wl) (fun a e => by injection e with e; subst e; simp) (by rw [sumOk_one]; exact hf))
    have hq := outC_two (Wn true wl) (Wn false wl)
    clear hf
    show Calls Try.prog 39 #[.string (str wl)] w fun e w' => e = .returned (.tuple #[.bool (!Wn true wl && !Wn false wl), .bool true]) ∧ Below w.heap.size w w'
    change Hid (Calls Try.prog 60 _ _ fun e w' => e = .returned (.string (str [outC (Wn true wl) (Wn false wl)])) ∧ _) at HO
    generalize Wn true wl = a at HO hq
    generalize Wn false wl = b at HO hq
    go_enter Try.func39, Try.ntmps39
    go_wp2_with (first | (go_at_call 58; refine (gaFew_any _ _ hs).mono ?_; rintro e w' ⟨rfl, rfl⟩; rw [HF.out]) | (go_at_call 60; refine HO.out.mono ?_; rintro e w2 ⟨rfl, hb2⟩))
    go_ret2
    exact ⟨rfl, ((Below.refl _ w).alloc (Nat.le_refl _) _).trans (hb2.mono (by simp))⟩
end Go.Proofs.Ytecmeppkggifeaa
