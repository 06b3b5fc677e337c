/- Contracts: a puzzle made of a line and a seed: the model's and the program's. -/
import Derived.Test.YtjnidfleccbdbaaPzGa
import Derived.Test.YtjnidfleccbdbaaPzI
import Derived.Deep.RegionLawGrows
namespace Go.Proofs.Ytjnidfleccbdbaa
open Go.RowKit

/-- The numbers by which clues are chosen. -/
def nxZ (z : Int) : Int := (z * 167 + 2281).tmod 10007
theorem nxZ_in {z : Int} (h : 0 ≤ z ∧ z ≤ 10006) : 0 ≤ nxZ z ∧ nxZ z ≤ 10006 := by
  unfold nxZ
  rw [Int.tmod_eq_emod_of_nonneg (by omega)]
  omega
def mkA (l : List UInt8) (z : Int) : Int := (nxZ (nxZ z)).tmod l.length
def mkC (l : List UInt8) (z : Int) : Cl :=
  if (nxZ z).tmod 6 = 0 then (0, mkA l z, clV 0 (mkA l z).toNat l) else ((nxZ z).tmod 6, clV ((nxZ z).tmod 6) 0 l, 0)
def mkZ (z : Int) : Int := if (nxZ z).tmod 6 = 0 then nxZ (nxZ z) else nxZ z
def mkZs : Nat → Int → Int
  | 0, z => z
  | n + 1, z => mkZ (mkZs n z)
def mkLs (l : List UInt8) : Nat → Int → List Cl
  | 0, _ => []
  | n + 1, z => mkLs l n z ++ [mkC l (mkZs n z)]
theorem mkLs_len (l : List UInt8) (z : Int) : ∀ n, (mkLs l n z).length = n
  | 0 => rfl
  | n + 1 => by rw [mkLs, List.length_append, mkLs_len l z n]; rfl
theorem mkZ_in {z : Int} (h : 0 ≤ z ∧ z ≤ 10006) : 0 ≤ mkZ z ∧ mkZ z ≤ 10006 := by
  unfold mkZ
  split
  · exact nxZ_in (nxZ_in h)
  · exact nxZ_in h
theorem mkZs_in {z : Int} (h : 0 ≤ z ∧ z ≤ 10006) : ∀ n, 0 ≤ mkZs n z ∧ mkZs n z ≤ 10006
  | 0 => h
  | n + 1 => mkZ_in (mkZs_in h n)
def mkOk (l : List UInt8) (k s : Int) : Bool := hidB l && inR k 0 6 && inR s 0 9999
theorem tmod_in {z : Int} (h : 0 ≤ z) {n : Int} (hn : 0 < n) : 0 ≤ z.tmod n ∧ z.tmod n < n := by
  rw [Int.tmod_eq_emod_of_nonneg h]
  exact ⟨Int.emod_nonneg _ (by omega), Int.emod_lt_of_pos _ hn⟩
/-- One round: the new number, the clue's kind and cell. -/
theorem mk_round (l : List UInt8) (hl : 0 < l.length) (z : Int) (hz : 0 ≤ z ∧ z ≤ 10006) :
    ∃ z1 kd, nxZ z = z1 ∧ (0 ≤ z1 ∧ z1 ≤ 10006) ∧ z1.tmod 6 = kd ∧ (0 ≤ kd ∧ kd ≤ 5) ∧
      ((kd = 0 ∧ ∃ z2 a, nxZ z1 = z2 ∧ (0 ≤ z2 ∧ z2 ≤ 10006) ∧ z2.tmod l.length = a ∧ (0 ≤ a ∧ a < l.length) ∧ mkC l z = (0, a, clV 0 a.toNat l) ∧ mkZ z = z2) ∨ (kd ≠ 0 ∧ mkC l z = (kd, clV kd 0 l, 0) ∧ mkZ z = z1)) := by
  have h1 := nxZ_in hz
  have h2 := tmod_in h1.1 (n := 6) (by omega)
  refine ⟨_, _, rfl, h1, rfl, ⟨h2.1, by omega⟩, ?_⟩
  by_cases e : (nxZ z).tmod 6 = 0
  · have h3 := nxZ_in h1
    have h4 := tmod_in h3.1 (n := (l.length : Int)) (by omega)
    exact Or.inl ⟨e, _, _, rfl, h3, rfl, h4, by unfold mkC mkA; rw [if_pos e], by unfold mkZ; rw [if_pos e]⟩
  · exact Or.inr ⟨e, by unfold mkC; rw [if_neg e], by unfold mkZ; rw [if_neg e]⟩

set_option maxHeartbeats 400000 in
theorem pzNext_any (z : Int) (w : World) (h : 0 ≤ z ∧ z ≤ 10006) :
    Calls Try.prog 26 #[.int .i64 z] w fun e w' => e = .returned (.int .i64 (nxZ z)) ∧ w = w' := by
  have e1 : (167 : Int) * z = z * 167 := by omega
  have h1 : IntKind.i64.wrap (z * 167) = z * 167 := by rw [IntKind.wrap_i64]; omega
  have h2 : IntKind.i64.wrap (z * 167 + 2281) = z * 167 + 2281 := by rw [IntKind.wrap_i64]; omega
  have h3 : IntKind.i64.wrap (167 * z) = z * 167 := by rw [e1]; exact h1
  have h4 : (0 : Int) ≤ z * 167 + 2281 := by omega
  have h5 : (z * 167 + 2281).tmod 10007 = nxZ z := rfl
  have h6 := nxZ_in h
  generalize nxZ z = y at h5 h6 ⊢
  go_enter Try.func26, Try.ntmps26
  go_wp2
  go_ret
  exact ⟨rfl, rfl⟩
set_option maxHeartbeats 400000 in
theorem numberBehind_any (z : Int) (w : World) (h : 0 ≤ z ∧ z ≤ 10006) :
    Calls Try.prog 30 #[.int .i64 z] w fun e w' => e = .returned (.int .i64 (nxZ z)) ∧ w = w' := by
  have h1 : IntKind.i64.wrap (z * 167) = z * 167 := by rw [IntKind.wrap_i64]; omega
  have h2 : IntKind.i64.wrap (z * 167 + 2281) = z * 167 + 2281 := by rw [IntKind.wrap_i64]; omega
  have h4 : (0 : Int) ≤ z * 167 + 2281 := by omega
  have h5 : (z * 167 + 2281).tmod 10007 = nxZ z := rfl
  have h6 := nxZ_in h
  generalize nxZ z = y at h5 h6 ⊢
  go_enter Try.func30, Try.ntmps30
  go_wp2
  go_ret
  exact ⟨rfl, rfl⟩

theorem results_pzo (tmps : Array Value) (w : World) (g : Nat) (x y z : Value) (hp : tmps.getD 6 undef = .pointer (some ⟨g, 0, none⟩)) (c0 : w.cell? ⟨g, 0, none⟩ = some x) (c1 : w.cell? ⟨g, 1, none⟩ = some y) (c2 : w.cell? ⟨g, 2, none⟩ = some z) :
    (results Try.f27 tmps).run Try.prog w = .ok (.agg #[x, y, z]) w := by
  have hr : Try.f27.results = #[.cell 6 34] := rfl
  unfold results
  rw [hr]
  simp at hp
  simp [hp, asAddr, c0, c1, c2, go_sem]

set_option maxRecDepth 100000 in
set_option maxHeartbeats 2000000 in
theorem pzOf_any (l : List UInt8) (k a : Int) (w : World) (hg : goodL (str l) = true) (h5 : l.length ≤ 5) (hk : 0 ≤ k ∧ k ≤ 5) (ha : 0 ≤ a ∧ a < l.length) :
    Calls Try.prog 27 #[.int .i64 k, .int .i64 a, .string (str l)] w fun e w' => e = .returned (clVal k a l) ∧ Below w.heap.size w w' := by
  obtain ⟨W0, hW0⟩ : ∃ W0, W0 = w.alloc (Obj.cells #[.int .i64 0, .int .i64 0, .int .i64 0] 34) := ⟨_, rfl⟩
  have hB0 : Below w.heap.size w W0 := by rw [hW0]; exact (Below.refl _ _).alloc (Nat.le_refl _) _
  have hz : w.heap.size < W0.heap.size := by rw [hW0]; simp
  have c0 : W0.cell? ⟨w.heap.size, 0, none⟩ = some (.int .i64 0) := by rw [hW0, cell_new' _ _ _ _ _ rfl]; rfl
  have c1 : W0.cell? ⟨w.heap.size, 1, none⟩ = some (.int .i64 0) := by rw [hW0, cell_new' _ _ _ _ _ rfl]; rfl
  have c2 : W0.cell? ⟨w.heap.size, 2, none⟩ = some (.int .i64 0) := by rw [hW0, cell_new' _ _ _ _ _ rfl]; rfl
  have fz : ∀ o, W0.frozen? ⟨w.heap.size, o, none⟩ = false := fun o => by rw [hW0]; exact frozen_new' _ _ _ _ _ rfl
  obtain ⟨n, rfl⟩ : ∃ n : Nat, a = n := ⟨a.toNat, by omega⟩
  obtain ⟨V, hV⟩ : ∃ V, V = clVal k n l := ⟨_, rfl⟩
  rw [← hV]
  by_cases e : k = 0
  · subst e
    have HP := Lib.hid (fun wx => pzValue_any l 0 n wx hg h5 (by omega) (by omega))
    have HVV : Hid (V = .agg #[.int .i64 0, .int .i64 n, .int .i64 (clV 0 n l)]) := Lib.hid (by rw [hV]; unfold clVal; rw [if_pos rfl, show ((n : Int)).toNat = n from rfl])
    clear hV hg h5 hk
    generalize clV 0 n l = u at HP HVV
    go_enter Try.func27, Try.ntmps27
    go_wp2_with fail
    rw [← hW0]
    clear hW0
    refine (HP.out _).mono ?_
    rintro e w1 ⟨rfl, hb1⟩
    have d0 := ((bcell hb1).1 _ 0 hz).trans c0
    have d1 := ((bcell hb1).1 _ 1 hz).trans c1
    have d2 := ((bcell hb1).1 _ 2 hz).trans c2
    have f0 := ((bcell hb1).2 _ 0 hz).trans (fz 0)
    have f1 := ((bcell hb1).2 _ 1 hz).trans (fz 1)
    have f2 := ((bcell hb1).2 _ 2 hz).trans (fz 2)
    have HB := Lib.hid (hB0.trans (hb1.mono hB0.size))
    clear hb1 c0 c1 c2 fz hB0 hz
    have HE := Lib.hid (set3 (.int .i64 0) (.int .i64 n) (.int .i64 u) d0 d1 d2)
    go_wp2_with fail
    exact bodyPost_ret (results_pzo _ _ w.heap.size _ _ _ rfl HE.out.1 HE.out.2.1 HE.out.2.2) rfl ⟨congrArg Ending.returned HVV.out.symm, ((HB.out.setCell (Nat.le_refl _) _).setCell (Nat.le_refl _) _).setCell (Nat.le_refl _) _⟩
  · have HP := Lib.hid (fun wx => pzValue_any l k 0 wx hg h5 hk (by omega))
    have HVV : Hid (V = .agg #[.int .i64 k, .int .i64 (clV k 0 l), .int .i64 0]) := Lib.hid (by rw [hV]; unfold clVal; rw [if_neg e])
    have e2 : (k == 0) = false := by simpa using e
    clear hV hg h5 hk e
    generalize clV k 0 l = u at HP HVV
    go_enter Try.func27, Try.ntmps27
    go_wp2_with fail
    rw [← hW0]
    clear hW0
    refine (HP.out _).mono ?_
    rintro e w1 ⟨rfl, hb1⟩
    have d0 := ((bcell hb1).1 _ 0 hz).trans c0
    have d1 := ((bcell hb1).1 _ 1 hz).trans c1
    have d2 := ((bcell hb1).1 _ 2 hz).trans c2
    have f0 := ((bcell hb1).2 _ 0 hz).trans (fz 0)
    have f1 := ((bcell hb1).2 _ 1 hz).trans (fz 1)
    have f2 := ((bcell hb1).2 _ 2 hz).trans (fz 2)
    have HB := Lib.hid (hB0.trans (hb1.mono hB0.size))
    clear hb1 c0 c1 c2 fz hB0 hz
    have HE := Lib.hid (set3 (.int .i64 k) (.int .i64 u) (.int .i64 0) d0 d1 d2)
    go_wp2_with fail
    exact bodyPost_ret (results_pzo _ _ w.heap.size _ _ _ rfl HE.out.1 HE.out.2.1 HE.out.2.2) rfl ⟨congrArg Ending.returned HVV.out.symm, ((HB.out.setCell (Nat.le_refl _) _).setCell (Nat.le_refl _) _).setCell (Nat.le_refl _) _⟩
end Go.Proofs.Ytjnidfleccbdbaa
