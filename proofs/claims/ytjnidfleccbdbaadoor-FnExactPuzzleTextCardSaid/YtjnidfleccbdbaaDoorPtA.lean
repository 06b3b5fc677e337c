/- Numbers and clues as texts: the model's and the program's. -/
import Derived.Test.YtjnidfleccbdbaaDoorPzC
import Derived.Test.YtjnidfleccbdbaaDoorSl
import Derived.Test.YtjnidfleccbdbaaDoorShelfT
import Derived.Lib.Join
import Derived.Deep.RegionLaw

namespace Go.Proofs.YtjnidfleccbdbaaDoor
open Go.RowKit

/-- A number's digits. -/
def numT (i : Int) : List UInt8 := Lib.decDigits i.toNat
/-- A clue's text. -/
def ctT (c : Cl) : List UInt8 := Lib.join [numT c.1, numT c.2.1, numT c.2.2] [46]
theorem ctT_eq (c : Cl) : ctT c = numT c.1 ++ [46] ++ numT c.2.1 ++ [46] ++ numT c.2.2 := by simp [ctT, Lib.join_cons, Lib.joinTail]
/-- A puzzle's text. -/
def pzT (n : Int) (l : List Cl) : List UInt8 := numT n ++ [58] ++ Lib.join (l.map ctT) [44]
theorem dec_small {u : Nat} (h : u < 10) : Lib.decDigits u = [UInt8.ofNat (48 + u)] := by rw [Lib.decDigits, dif_pos h]
theorem dec_ten : Lib.decDigits 10 = [49, 48] := by
  rw [Lib.decDigits, dif_neg (by decide), dec_small (by decide)]
  rfl
theorem dec_len {u : Nat} (h : u ≤ 10) : (Lib.decDigits u).length ≤ 2 := by
  by_cases h1 : u < 10
  · rw [dec_small h1]; simp
  · obtain rfl : u = 10 := by omega
    rw [dec_ten]; simp
theorem numT_len {i : Int} (h : i ≤ 10) : (numT i).length ≤ 2 := dec_len (by omega)
/-- The numbers of a clue are small. -/
def SmallC (c : Cl) : Prop := (0 ≤ c.1 ∧ c.1 ≤ 10) ∧ (0 ≤ c.2.1 ∧ c.2.1 ≤ 10) ∧ (0 ≤ c.2.2 ∧ c.2.2 ≤ 10)
theorem small_ck {n : Int} {c : Cl} (h15 : 1 ≤ n ∧ n ≤ 5) (h : ckOk n c = true) : SmallC c := by
  obtain ⟨k, a, b⟩ := c
  unfold ckOk at h
  simp only at h
  by_cases hk : 0 ≤ k ∧ k ≤ 5
  · rw [clueOk_mostly n k a b hk] at h
    simp only [Bool.and_eq_true, decide_eq_true_eq] at h
    obtain ⟨⟨⟨h1, h2⟩, h3⟩, h4⟩ := h
    have hm : mostA n k ≤ 10 := by unfold mostA; split <;> (try split) <;> (try split) <;> (try split) <;> omega
    refine ⟨⟨hk.1, show k ≤ 10 by omega⟩, ⟨h1, show a ≤ 10 by omega⟩, h3, show b ≤ 10 from ?_⟩
    split at h4 <;> omega
  · rw [clueOk_none n k a b hk] at h
    cases h
theorem ctT_len {c : Cl} (h : SmallC c) : (ctT c).length ≤ 8 := by
  obtain ⟨⟨_, h1⟩, ⟨_, h2⟩, _, h3⟩ := h
  have a := numT_len h1
  have b := numT_len h2
  have d := numT_len h3
  rw [ctT_eq]
  simp only [List.length_append, List.length_cons, List.length_nil]
  omega

set_option maxRecDepth 100000 in
set_option maxHeartbeats 1000000 in
theorem l1Num_small (n : Nat) (h : n < 10) (w : World) :
    Calls Tryd.prog 61 #[.int .i64 n] w fun e w' => e = .returned (.string (str (Lib.decDigits n))) ∧ Below w.heap.size w w' := by
  have h1 : (n : Int) < 10 := by omega
  obtain ⟨dg, hdg⟩ : ∃ dg, dg = UInt8.ofNat (48 + n) := ⟨_, rfl⟩
  have hdn : ((dg.toNat : Nat) : Int) = 48 + (n : Int) := by rw [hdg, UInt8.toNat_ofNat']; omega
  have hconv := run_convert_bytes_back (P := Tryd.prog) (w.alloc (Obj.cells #[.int .u8 (48 + (n : Int))] 5)) 71 9 5 ⟨w.heap.size, 0, none⟩ 1 [dg] Tryd.underlying71 Tryd.underlying5 Tryd.underlying9 (by
    intro q hq
    obtain rfl : q = 0 := by simpa using hq
    rw [addr_add, World.cell?_alloc_new]
    simp [hdn])
  simp only [List.length_cons, List.length_nil, Nat.zero_add] at hconv
  have HD : Hid (str (Lib.decDigits n) = ⟨[dg].toArray⟩) := Lib.hid (by rw [dec_small h, ← hdg]; rfl)
  have hB : Below w.heap.size w (w.alloc (Obj.cells #[.int .u8 (48 + (n : Int))] 5)) := (Below.refl _ _).alloc (Nat.le_refl _) _
  rw [HD.out]
  clear hdg hdn
  go_enter Tryd.func61, Tryd.ntmps61
  go_wp2
  go_ret
  exact ⟨rfl, hB⟩

set_option maxRecDepth 100000 in
set_option maxHeartbeats 2000000 in
theorem l1Num_ten (w : World) :
    Calls Tryd.prog 61 #[.int .i64 10] w fun e w' => e = .returned (.string (str (Lib.decDigits 10))) ∧ Below w.heap.size w w' := by
  have HC := Lib.hid (fun wx => l1Num_small 1 (by decide) wx)
  rw [dec_small (by decide), show str [UInt8.ofNat (48 + 1)] = ⟨#[49]⟩ from rfl] at HC
  rw [dec_ten, show str [49, 48] = ⟨#[49, 48]⟩ from rfl]
  have HCV : ∀ (wy : World) (g : Nat) (_ : wy.cell? ⟨g, 0, none⟩ = some (.int .u8 48)), _ := fun wy g hg => run_convert_bytes_back (P := Tryd.prog) wy 71 9 5 ⟨g, 0, none⟩ 1 [48] Tryd.underlying71 Tryd.underlying5 Tryd.underlying9 (by
    intro q hq
    obtain rfl : q = 0 := by simpa using hq
    rw [addr_add]
    simpa using hg)
  simp only [List.length_cons, List.length_nil, Nat.zero_add] at HCV
  have hconv := fun wy : World => HCV (wy.alloc (Obj.cells #[.int .u8 48] 5)) wy.heap.size (by rw [World.cell?_alloc_new]; rfl)
  have HCV := Lib.hid HCV
  have hw1 : IntKind.i64.wrap 48 = 48 := by decide
  have hw2 : IntKind.u8.wrap 48 = 48 := by decide
  have hw3 : IntKind.i64.wrap 1 = 1 := by decide
  go_enter Tryd.func61, Tryd.ntmps61
  go_wp2_with fail
  go_region_law (first | (go_simp; go_at_call 61; refine (HC.out _).mono ?_; rintro e wx ⟨rfl, hbx⟩; have hB : Below w.heap.size w wx := Below.trans (by repeat first | exact Below.refl _ _ | refine Below.drew ?_ | refine Below.alloc ?_ (by first | omega | (simp <;> omega)) _) (hbx.mono (Below.size (B := w.heap.size) (w := w) (by repeat first | exact Below.refl _ _ | refine Below.drew ?_ | refine Below.alloc ?_ (by first | omega | (simp <;> omega)) _))); have hsx := hB.size; (first | (have hcv := HCV.out wx w.heap.size ((hbx.cell (p := ⟨w.heap.size, 0, none⟩) (by show w.heap.size < (w.alloc _).heap.size; simp)).trans (by show (w.alloc _).cell? _ = _; rw [World.cell?_alloc_new]; rfl))) | skip)))
  all_goals
    go_wp2_with fail
    go_ret
    exact ⟨rfl, by repeat first | exact hB | exact Below.refl _ _ | refine Below.drew ?_ | refine Below.alloc ?_ (by first | omega | (simp <;> omega)) _⟩
end Go.Proofs.YtjnidfleccbdbaaDoor
