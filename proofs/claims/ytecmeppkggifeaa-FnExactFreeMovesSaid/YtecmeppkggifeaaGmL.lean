/- Contracts: how many moves one player can make alone, in the model and in the program. -/
import Derived.Test.YtecmeppkggifeaaGmK
import Derived.Test.YtecmeppkggifeaaGmF
import Derived.Test.YtecmeppkggifeaaGmP
namespace Go.Proofs.Ytecmeppkggifeaa
open Go.RowKit

theorem Fr_small (tm : Bool) {s : List UInt8} (hs : s.length ≤ 100) : Fr tm s ≤ 20000 := by
  have h1 := Fr_le tm _ s hs (Nat.lt_succ_self _)
  have h2 := muG_le s 0 (by omega)
  omega
/-- What the first k moves have told. -/
def frK (tm : Bool) (s : List UInt8) (k : Nat) : Nat := (((nxG tm s).take k).map (Fr tm)).foldl (fun a x => max a (x + 1)) 0
theorem frK_zero (tm : Bool) (s : List UInt8) : frK tm s 0 = 0 := rfl
theorem frK_step (tm : Bool) (s : List UInt8) (k : Nat) (h : k < (gmM tm s).length) : frK tm s (k + 1) = max (frK tm s k) (Fr tm (behind (str s) (gmM tm s)[k].1 (gmM tm s)[k].2) + 1) := by
  unfold frK
  rw [List.take_succ_eq_append_getElem (by simpa [nxG] using h), List.map_append, List.foldl_append]
  simp [nxG]
theorem frK_all (tm : Bool) {s : List UInt8} (hs : s.length ≤ 100) : frK tm s (gmM tm s).length = Fr tm s := by
  unfold frK
  rw [List.take_of_length_le (by simp [nxG]), ← Fr_eq tm hs]
theorem fold_le {n : Nat} : ∀ (l : List Nat) (a : Nat), a ≤ n → (∀ x ∈ l, x + 1 ≤ n) → l.foldl (fun a x => max a (x + 1)) a ≤ n
  | [], _, h, _ => h
  | x :: l, a, h, hl => fold_le l _ (by have := hl x (by simp); show max a (x + 1) ≤ n; omega) fun y hy => hl y (by simp [hy])
theorem frK_small {tm : Bool} {s : List UInt8} (hs : s.length ≤ 100) (k : Nat) : frK tm s k ≤ 20001 :=
  fold_le _ 0 (Nat.zero_le _) fun x hx => by
    obtain ⟨y, hy, rfl⟩ := List.mem_map.1 hx
    have h2 := (mu_less hs (List.mem_of_mem_take hy)).2
    have := Fr_small tm (s := y) (by omega)
    omega

set_option maxRecDepth 100000 in
set_option maxHeartbeats 4000000 in
theorem gaFree_any : ∀ (N : Nat) (tm : Bool) (s : List UInt8) (W : World), muG 0 s = N → goodL (str s) = true →
    Calls Try.prog 77 #[.string (str s), .bool tm] W fun e W' => e = .returned (.int .i64 (Fr tm s : Int)) ∧ Below W.heap.size W W' := by
  intro N
  induction N using Nat.strongRecOn with
  | ind N IH =>
  intro tm s W hmu hg
  have hL12 : s.length ≤ 12 := by have := ((goodL_iff _).1 hg).2.1; rw [str_size] at this; omega
  have hs100 : s.length ≤ 100 := by omega
  have HIH := Lib.hid IH
  have HMV := Lib.hid (fun wx => liMoves_kd tm s wx hg)
  have HAT := Lib.hid (fun (j : Nat) (h : j < (gmM tm s).length) => gm_at (tm := tm) (s := s) j h)
  have hMl := gmM_le tm s
  have HLESS : Hid (∀ x ∈ nxG tm s, muG 0 x < N ∧ goodL (str x) = true ∧ Fr tm x ≤ 20000) := Lib.hid fun x hx => by
    have := mu_less hs100 hx
    exact ⟨by rw [← hmu]; exact this.1, nxG_good hg hx, Fr_small tm (by omega)⟩
  have HST := Lib.hid (frK_step tm s)
  have HSM := Lib.hid (frK_small (tm := tm) hs100)
  have HEND := Lib.hid (frK_all tm hs100)
  clear IH hmu hg
  go_enter Try.func77, Try.ntmps77
  go_wp2_with fail
  refine (HMV.out _).mono ?_
  rintro e w2 ⟨vm, rfl, ho2, hb2⟩
  obtain ⟨A2, cap2, rfl, AT2⟩ := at_of_own ho2
  have AT := Lib.hid AT2
  have HB2 := Lib.hid hb2
  clear ho2 hb2 AT2
  generalize hMM : gmM tm s = M at HAT HST HEND hMl AT
  clear hMM
  go_wp2
  go_loopw [5, 14] (fun a t wr => ∃ j : Nat, j ≤ M.length ∧ t = .int .i64 j ∧ a = .int .i64 (frK tm s j : Int) ∧ Hid (Below w2.heap.size w2 wr)) (fun _ t _ => M.length - (intOf t).toNat)
  case atStart => exact ⟨0, Nat.zero_le _, rfl, rfl, Lib.hid (Below.refl _ _)⟩
  case round =>
    obtain ⟨j, hj, rfl, rfl, HBR⟩ := hrel
    by_cases hltj : j < M.length
    · obtain ⟨gm, hgm, zz, p1, q1⟩ := (AT.out.below HBR.out) j hltj
      subst hgm
      obtain ⟨a, b, e1, e2, hai, hbi, hneab, hyn, hy⟩ := HAT.out j hltj
      rw [e1] at p1
      rw [e2] at q1
      have hS0 := HST.out j hltj
      rw [← hy] at hS0
      obtain ⟨hmu1, hmu2, hmu3⟩ := HLESS.out _ hyn
      have hsm1 := HSM.out j
      have HMK := Lib.hid (fun wx => liMake_any (str s) a b wx (by rw [str_size]; omega) (by rw [str_size]; exact hai) (by rw [str_size]; exact hbi) hneab)
      have HIHY := Lib.hid (fun wx => HIH.out _ hmu1 tm (putL (str s) a b) wx rfl hmu2)
      generalize Fr tm (putL (str s) a b) = c at HIHY hS0 hmu3
      have HS := Lib.hid hS0
      have HMOST : Hid (∀ wx, Calls Try.prog 104 #[.int .i64 (frK tm s j : Int), .int .i64 (1 + (c : Int))] wx fun e w' => e = .returned (.int .i64 ((max (frK tm s j) (c + 1) : Nat) : Int)) ∧ wx = w') := Lib.hid fun wx => by
        have := l1Most_any (frK tm s j) (c + 1) wx
        rwa [show (((c + 1 : Nat) : Int)) = 1 + (c : Int) by omega] at this
      clear e1 e2 hy hyn hS0 hmu1 hmu2
      have j1 : (0 : Int) ≤ (j : Int) := by omega
      have j2 : (j : Int) < (M.length : Int) := by omega
      go_wp2_with fail
      refine (HMK.out _).mono ?_
      rintro e w3 ⟨rfl, hb3⟩
      have HB3 := Lib.hid (((Below.refl wr.heap.size wr).alloc (Nat.le_refl _) (mvB a b)).trans (hb3.mono (by simp)))
      clear hb3 p1 q1
      go_wp2_with fail
      refine (HIHY.out _).mono ?_
      rintro e w4 ⟨rfl, hb4⟩
      have HB4 := Lib.hid (HBR.out.trans ((HB3.out.trans (hb4.mono HB3.out.size)).mono HBR.out.size))
      clear hb4
      go_wp2_with fail
      refine (HMOST.out _).mono ?_
      rintro e w5 ⟨rfl, rfl⟩
      go_wp2
      go_roundw
      case rel => exact ⟨j + 1, by omega, by go_num, by rw [HS.out], HB4⟩
      case measure => simp [intOf]; omega
    · obtain rfl : j = M.length := by omega
      have HE := Lib.hid (HEND.out)
      go_wp2
      go_ret
      exact ⟨by rw [HE.out]; rfl, HB2.out.trans (HBR.out.mono HB2.out.size)⟩
end Go.Proofs.Ytecmeppkggifeaa
