/- Contracts: sums: which are ones, the program's turn of one. -/
import Derived.Test.YticdhapbkfbhjaaGmT
namespace Go.Proofs.Yticdhapbkfbhjaa
open Go.RowKit Go.Maps Go.Shelf

/-- A sum: one to three lines, at most ten cells together. -/
def sumOk (ls : List (List UInt8)) : Bool := decide (1 ≤ ls.length) && decide (ls.length ≤ 3) && ls.all (fun x => goodL (str x)) && decide ((ls.map List.length).sum ≤ 10)
def upLen (ls : List (List UInt8)) (k : Nat) : Nat := ((ls.take k).map List.length).sum
theorem upLen_step (ls : List (List UInt8)) (k : Nat) (h : k < ls.length) : upLen ls (k + 1) = upLen ls k + ls[k].length := by
  unfold upLen
  rw [List.take_succ_eq_append_getElem h, List.map_append, List.sum_append]
  simp
theorem upLen_all (ls : List (List UInt8)) : upLen ls ls.length = (ls.map List.length).sum := by simp [upLen]
theorem upLen_le (ls : List (List UInt8)) (n : Nat) : ∀ k, k ≤ ls.length → (∀ j (h : j < ls.length), j < k → ls[j].length ≤ n) → upLen ls k ≤ n * k
  | 0, _, _ => by simp [upLen]
  | k + 1, hk, h => by
    have := upLen_le ls n k (by omega) fun j hj hjk => h j hj (by omega)
    rw [upLen_step ls k (by omega), Nat.mul_succ]
    have := h k (by omega) (by omega)
    omega
theorem sumOk_iff (ls : List (List UInt8)) : sumOk ls = true ↔ 1 ≤ ls.length ∧ ls.length ≤ 3 ∧ (∀ x ∈ ls, goodL (str x) = true) ∧ (ls.map List.length).sum ≤ 10 := by
  simp [sumOk, and_assoc]
theorem sumOk_sum {ls : List (List UInt8)} (h : sumOk ls = true) : SumG (joinG ls).length ls := by
  obtain ⟨h1, h2, h3, h4⟩ := (sumOk_iff ls).1 h
  refine ⟨List.ne_nil_of_length_pos h1, h2, h3, rfl, ?_⟩
  have key : ∀ l : List (List UInt8), l ≠ [] → (joinG l).length + 1 = (l.map List.length).sum + l.length := by
    intro l
    induction l with
    | nil => intro h; exact absurd rfl h
    | cons w r ih =>
      intro _
      by_cases hr : r = []
      · subst hr; simp [joinG]
      · rw [joinG_cons w hr]
        have := ih hr
        simp only [List.length_append, List.length_cons, List.map_cons, List.sum_cons]
        omega
  have := key ls (List.ne_nil_of_length_pos h1)
  omega
theorem good_len {x : List UInt8} (h : goodL (str x) = true) : 1 ≤ x.length ∧ x.length ≤ 12 := by
  have := (goodL_iff _).1 h
  rw [str_size] at this
  omega

set_option maxHeartbeats 2000000 in
theorem gaSum_any (ls : List (List UInt8)) (A : Option Addr) (cap : Nat) (w : World) (hA : StO w A ls) (hn : ls.length ≤ 2000000) (hsz : ∀ x ∈ ls, x.length ≤ maxLen) :
    Calls Try.prog 60 #[.slice A ls.length cap] w fun e w' => e = .returned (.bool (sumOk ls)) ∧ w = w' := by
  have HA := Lib.hid hA
  have HSZ := Lib.hid hsz
  have HIN := Lib.hid (fun wx => l1In_any (ls.length : Int) 1 3 wx)
  have HST := Lib.hid (upLen_step ls)
  clear hA hsz
  by_cases h13 : 1 ≤ ls.length ∧ ls.length ≤ 3
  · have hin : Hid (inR (ls.length : Int) 1 3 = true) := by
      show inR _ _ _ = true
      unfold inR; simp; omega
    have HOK : Hid (∀ b : Bool, (b = true ↔ (∀ x ∈ ls, goodL (str x) = true) ∧ (ls.map List.length).sum ≤ 10) → b = sumOk ls) := Lib.hid fun b hb => by
      rw [Bool.eq_iff_iff, hb, sumOk_iff]
      exact ⟨fun h => ⟨h13.1, h13.2, h⟩, fun h => h.2.2⟩
    obtain ⟨h1, h3⟩ := h13
    go_enter Try.func60, Try.ntmps60
    go_wp2_with (go_at_call 77; refine (HIN.out _).mono ?_; rintro e w' ⟨rfl, rfl⟩; rw [hin.out])
    go_loop [3, 12] (fun c i => ∃ k : Nat, k ≤ ls.length ∧ i = .int .i64 k ∧ c = .int .i64 (upLen ls k) ∧ upLen ls k ≤ 10 * k ∧ Hid (∀ j (h : j < ls.length), j < k → goodL (str ls[j]) = true)) (fun _ i => ls.length - (intOf i).toNat)
    case atStart => exact ⟨0, Nat.zero_le _, rfl, rfl, by simp [upLen], Lib.hid fun j _ h => by omega⟩
    case round =>
      obtain ⟨k, hk, rfl, rfl, hu, HG⟩ := hrel
      by_cases hlt : k < ls.length
      · obtain ⟨g, o, rfl, hg, hcell⟩ := HA.out k hlt
        have hS := HST.out k hlt
        have hx := HSZ.out _ (List.getElem_mem hlt)
        have HFW := Lib.hid (fun wx => gaFew_any (str ls[k]) wx (by rw [str_size]; exact hx))
        have i1 : (0 : Int) ≤ (k : Int) := by omega
        have i2 : (k : Int) < (ls.length : Int) := by omega
        cases hf : fewB (str ls[k])
        · have HNO : Hid (false = sumOk ls) := Lib.hid (HOK.out false (by
            refine ⟨nofun, fun ⟨h1, h2⟩ => ?_⟩
            have hg := h1 _ (List.getElem_mem hlt)
            unfold fewB at hf
            rw [hg, Bool.true_and, decide_eq_false_iff_not, str_size] at hf
            have hle : ls[k].length ≤ (ls.map List.length).sum := by
              rw [← upLen_all]
              have : ∀ m, k + 1 + m ≤ ls.length → ls[k].length ≤ upLen ls (k + 1 + m) := by
                intro m
                induction m with
                | zero => intro _; rw [Nat.add_zero, hS]; omega
                | succ m ih => intro hm; rw [← Nat.add_assoc, upLen_step ls _ (by omega)]; have := ih (by omega); omega
              have := this (ls.length - (k + 1)) (by omega)
              rwa [show k + 1 + (ls.length - (k + 1)) = ls.length by omega] at this
            omega))
          have HF := Lib.hid hf
          clear hf hS hx
          generalize ls[k] = x at hcell HFW HF
          go_wp2_with (go_at_call 88; refine (HFW.out _).mono ?_; rintro e w' ⟨rfl, rfl⟩; rw [HF.out])
          go_ret
          exact ⟨by rw [← HNO.out]; rfl, rfl⟩
        · have hgk : goodL (str ls[k]) = true := by unfold fewB at hf; exact (Bool.and_eq_true _ _ ▸ hf).1
          have hk10 : ls[k].length ≤ 10 := by
            unfold fewB at hf
            rw [hgk, Bool.true_and, decide_eq_true_iff, str_size] at hf
            exact hf
          have HG2 : Hid (∀ j (h : j < ls.length), j < k + 1 → goodL (str ls[j]) = true) := Lib.hid fun j hj hjk => by
            by_cases e : j = k
            · subst e; exact hgk
            · exact HG.out j hj (by omega)
          have HF := Lib.hid hf
          have HS := Lib.hid hS
          have hu2 : upLen ls k + ls[k].length ≤ 10 * (k + 1) := by omega
          clear hf hx hgk hS
          generalize hx : ls[k] = x at hcell HFW HF hk10 hu2 HS
          have hsx := str_size x
          go_wp2_with (go_at_call 88; refine (HFW.out _).mono ?_; rintro e w' ⟨rfl, rfl⟩; rw [HF.out])
          go_round
          case rel => exact ⟨k + 1, by omega, by go_num, by rw [HS.out]; go_num, by rw [HS.out]; exact hu2, HG2⟩
          case measure => simp [intOf]; omega
      · obtain rfl : k = ls.length := by omega
        have HR : Hid (decide (upLen ls ls.length ≤ 10) = sumOk ls) := Lib.hid (HOK.out _ (by
          rw [decide_eq_true_iff, upLen_all]
          refine ⟨fun h => ⟨fun x hx => ?_, h⟩, fun h => h.2⟩
          obtain ⟨j, hj, rfl⟩ := List.getElem_of_mem hx
          exact HG.out j hj hj))
        go_wp2
        go_ret
        exact ⟨by rw [← HR.out]; exact congrArg (fun b => Ending.returned (.bool b)) (decide_eq_decide.2 (by omega)), rfl⟩
  · have hin : Hid (inR (ls.length : Int) 1 3 = false) := by
      show inR _ _ _ = false
      unfold inR; rw [Bool.eq_false_iff]; simp; omega
    have HNO : Hid (sumOk ls = false) := by
      show _ = _
      rw [Bool.eq_false_iff]
      intro h
      have := (sumOk_iff ls).1 h
      omega
    go_enter Try.func60, Try.ntmps60
    go_wp2_with (go_at_call 77; refine (HIN.out _).mono ?_; rintro e w' ⟨rfl, rfl⟩; rw [hin.out])
    go_ret
    exact ⟨by rw [HNO.out]; rfl, rfl⟩
end Go.Proofs.Yticdhapbkfbhjaa
