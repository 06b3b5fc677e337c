/- Contracts: a puzzle's text: the model's and the program's. -/
import Derived.Test.YtjnidfleccbdbaaDoorPtA
import Derived.Test.YtjnidfleccbdbaaDoorPzCl
namespace Go.Proofs.YtjnidfleccbdbaaDoor
open Go.RowKit

theorem l1Num_any (i : Int) (w : World) (h : 0 ≤ i ∧ i ≤ 10) :
    Calls Tryd.prog 61 #[.int .i64 i] w fun e w' => e = .returned (.string (str (numT i))) ∧ Below w.heap.size w w' := by
  obtain ⟨n, rfl⟩ : ∃ n : Nat, i = n := ⟨i.toNat, by omega⟩
  by_cases h1 : n < 10
  · exact l1Num_small n h1 w
  · obtain rfl : n = 10 := by omega
    exact l1Num_ten w
theorem itoa_any (i : Int) (w : World) (h : 0 ≤ i ∧ i ≤ 10) :
    Calls Tryd.prog 36 #[.int .i64 i] w fun e w' => e = .returned (.string (str (numT i))) ∧ w' = w := by
  obtain ⟨n, rfl⟩ : ∃ n : Nat, i = n := ⟨i.toNat, by omega⟩
  exact Tryd.strconv_Itoa_small n (by omega) w
theorem joinS_any (L : List (List UInt8)) (sep : List UInt8) (A : Option Addr) (cap : Nat) (w : World) (hA : StAt w A L) (hcap : L.length ≤ cap) (hl : L.length ≤ 100) (hlen : (Lib.join L sep).length ≤ 100000) :
    Calls Tryd.prog 37 #[.slice A L.length cap, .string (str sep)] w fun e w' => e = .returned (.string (str (Lib.join L sep))) ∧ Below w.heap.size w w' := by
  cases L with
  | nil =>
    refine (Tryd.strings_Join_none A cap (str sep) w).mono ?_
    rintro e w' ⟨rfl, rfl⟩
    exact ⟨rfl, Below.refl _ _⟩
  | cons x L' =>
    obtain ⟨g, rfl, hg, h00⟩ := hA 0 (by simp)
    clear h00
    generalize x :: L' = R at *
    have e : (R.map str).map (·.data.toList) = R := by
      rw [List.map_map]
      have : ((fun x : ByteArray => x.data.toList) ∘ str) = id := by funext x; exact byt_str x
      rw [this, List.map_id]
    have h := Tryd.strings_Join g 0 cap (R.map str) (str sep) w (fun j x hx => by
      have hj : j < R.length := by have := (List.getElem?_eq_some_iff.1 hx).1; simpa using this
      obtain ⟨g', e1, _, hc⟩ := hA j hj
      injection e1 with e1
      injection e1 with e1 _
      subst e1
      have e2 : (R.map str)[j]? = some (str R[j]) := by simp [hj]
      rw [e2] at hx
      injection hx with hx
      rw [← hx, Nat.zero_add]
      exact hc) hg (by simp; omega) (by simpa using hcap) (by rw [e, show (str sep).data.toList = sep from byt_str sep]; omega)
    rw [e, List.length_map, show (str sep).data.toList = sep from byt_str sep] at h
    exact h

set_option maxRecDepth 100000 in
set_option maxHeartbeats 2000000 in
theorem textOfClue_any (x y z : Int) (w : World) (h : SmallC (x, y, z)) :
    Calls Tryd.prog 35 #[.agg #[.int .i64 x, .int .i64 y, .int .i64 z]] w fun e w' => e = .returned (.string (str (ctT (x, y, z)))) ∧ Below w.heap.size w w' := by
  obtain ⟨hx, hy, hz⟩ := h
  have hlen := ctT_len (c := (x, y, z)) ⟨hx, hy, hz⟩
  have HI := Lib.hid (fun i wx (h : 0 ≤ i ∧ i ≤ 10) => itoa_any i wx h)
  have HX := Lib.hid (itoa_any x · hx)
  have HY := Lib.hid (itoa_any y · hy)
  have HZ := Lib.hid (itoa_any z · hz)
  have HJ := Lib.hid (fun A wx (h : StAt wx A [numT x, numT y, numT z]) => joinS_any [numT x, numT y, numT z] [46] A 3 wx h (Nat.le_refl 3) (show 3 ≤ 100 by omega) (by have : (Lib.join [numT x, numT y, numT z] [46]).length ≤ 8 := hlen; omega))
  rw [show Lib.join [numT x, numT y, numT z] [46] = ctT (x, y, z) from rfl] at HJ
  generalize ctT (x, y, z) = T at HJ hlen ⊢
  generalize numT x = a at HX HJ
  generalize numT y = b at HY HJ
  generalize numT z = c at HZ HJ
  obtain ⟨W0, hW0⟩ : ∃ W0, W0 = w.alloc (Obj.cells #[.int .i64 x, .int .i64 y, .int .i64 z] 61) := ⟨_, rfl⟩
  have hB0 : Below w.heap.size w W0 := by rw [hW0]; exact (Below.refl _ _).alloc (Nat.le_refl _) _
  have c0 : W0.cell? ⟨w.heap.size, 0, none⟩ = some (.int .i64 x) := by rw [hW0, cell_new' _ _ _ _ _ rfl]; rfl
  have c1 : W0.cell? ⟨w.heap.size, 1, none⟩ = some (.int .i64 y) := by rw [hW0, cell_new' _ _ _ _ _ rfl]; rfl
  have c2 : W0.cell? ⟨w.heap.size, 2, none⟩ = some (.int .i64 z) := by rw [hW0, cell_new' _ _ _ _ _ rfl]; rfl
  have HB0 := Lib.hid hB0
  have HK : Hid (∀ w', Below W0.heap.size W0 w' → w'.cell? ⟨w.heap.size, 0, none⟩ = some (.int .i64 x) ∧ w'.cell? ⟨w.heap.size, 1, none⟩ = some (.int .i64 y) ∧ w'.cell? ⟨w.heap.size, 2, none⟩ = some (.int .i64 z)) := Lib.hid fun w' hb => by
    have hz : w.heap.size < W0.heap.size := lt_of_cell0 c0
    exact ⟨((bcell hb).1 _ _ hz).trans c0, ((bcell hb).1 _ _ hz).trans c1, ((bcell hb).1 _ _ hz).trans c2⟩
  clear hB0 hx hy hz c0 c1 c2
  obtain ⟨W1, hW1⟩ : ∃ W1, W1 = (W0.alloc (Obj.cells #[.string (str a), .string (str b), .string (str c)] 9)).drew := ⟨_, rfl⟩
  have hB1 : Below W0.heap.size W0 W1 := by rw [hW1]; exact Below.drew ((Below.refl _ _).alloc (Nat.le_refl _) _)
  have hst : StAt W1 (some ⟨W0.heap.size, 0, none⟩) [a, b, c] := by
    intro k hk
    have h3 : k < 3 := hk
    refine ⟨W0.heap.size, rfl, by rw [hW1]; show _ < (W0.alloc _).heap.size; simp, ?_⟩
    rw [hW1]
    show (W0.alloc _).cell? _ = _
    rw [cell_new' _ _ _ _ _ rfl]
    match k, h3 with
    | 0, _ => rfl
    | 1, _ => rfl
    | 2, _ => rfl
  have HST := Lib.hid hst
  have HB1 := Lib.hid (HB0.out.trans (hB1.mono HB0.out.size))
  clear hst hB1
  go_enter Tryd.func35, Tryd.ntmps35
  go_wp2_with fail
  rw [← hW0]
  clear hW0
  go_region_held3 (fun w' => w'.cell? ⟨w.heap.size, 0, none⟩ = some (.int .i64 x) ∧ w'.cell? ⟨w.heap.size, 1, none⟩ = some (.int .i64 y) ∧ w'.cell? ⟨w.heap.size, 2, none⟩ = some (.int .i64 z)) (exact HK.out _ (by repeat first | exact Below.refl _ _ | refine Below.drew ?_ | refine Below.alloc ?_ (by first | omega | (simp <;> omega)) _)) (first | (go_at_call_of 36 x; refine (HX.out _).mono ?_; rintro e wa ⟨rfl, rfl⟩) | (go_at_call_of 36 y; refine (HY.out _).mono ?_; rintro e wb ⟨rfl, rfl⟩) | (go_at_call_of 36 z; refine (HZ.out _).mono ?_; rintro e wc ⟨rfl, rfl⟩))
  go_wp2_with fail
  rw [← hW1]
  clear hW1
  refine (HJ.out _ _ HST.out).mono ?_
  rintro e w2 ⟨rfl, hb2⟩
  have HB2 := Lib.hid (HB1.out.trans (hb2.mono HB1.out.size))
  go_wp2_with fail
  go_ret
  exact ⟨rfl, HB2.out⟩
end Go.Proofs.YtjnidfleccbdbaaDoor
