/- Contract: the model's MakeOnBoard. -/
import Derived.Test.YtjnidfleccbdbaaDoorBdMk
import Derived.Test.YtjnidfleccbdbaaDoorBdEt
import Derived.Test.YtjnidfleccbdbaaDoorBdT
namespace Go.Proofs.YtjnidfleccbdbaaDoor
open Go.RowKit

/-- The rows behind a move, told by its cells' numbers. -/
def mbR (R : List (List UInt8)) (wd : Nat) (f t : Int) : List (List UInt8) := mkR R (f.toNat % wd) (f.toNat / wd) (t.toNat % wd) (t.toNat / wd)
theorem boC_in {R : List (List UInt8)} {wd : Nat} (G : GoodR R wd) {f t : Int} (h : boC R wd f t = true) : ∃ F T : Nat, f = F ∧ t = T ∧ F < R.length * wd ∧ T < R.length * wd := by
  unfold boC inR at h
  simp only [Bool.and_eq_true, decide_eq_true_eq] at h
  obtain ⟨⟨h1, h2⟩, ⟨h3, h4⟩, _⟩ := h
  have e : (wd : Int) * (R.length : Int) = ((R.length * wd : Nat) : Int) := by rw [Nat.mul_comm]; push_cast; rfl
  rw [e] at h2 h4
  have := G.hw
  exact ⟨f.toNat, t.toNat, by omega, by omega, by omega, by omega⟩
/-- boMake where a move can be made. -/
theorem boMake_ok {R : List (List UInt8)} {wd : Nat} (G : GoodR R wd) {f t : Int} (h : boC R wd f t = true) (A : Option Addr) (cap : Nat) (w : World) (hA : StAt w A R) :
    Calls Tryd.prog 50 #[.slice A R.length cap, .agg #[.int .i64 f, .int .i64 t]] w fun e w' => ∃ v', e = .returned v' ∧ w'.ownsRow w.heap.size 9 1 v' R.length (txs (mbR R wd f t)) ∧ Below w.heap.size w w' := by
  obtain ⟨F, T, rfl, rfl, hF, hT⟩ := boC_in G h
  exact boMake_any R wd A cap F T _ _ _ _ w hA G.hh.2 G.hw.1 G.hw.2 G.hl rfl rfl rfl rfl (split_num G hF).2.2 (split_num G hT).2.2
theorem mbR_len (R : List (List UInt8)) (wd : Nat) (f t : Int) : (mbR R wd f t).length = R.length := mkR_len _ _ _ _ _
theorem mbR_rows {R : List (List UInt8)} {wd : Nat} (h : ∀ r ∈ R, r.length = wd) (f t : Int) : ∀ r ∈ mbR R wd f t, r.length = wd := by
  unfold mbR mkR
  exact set_rows (set_rows h _ _ _) _ _ _
/-- The text behind a move. -/
def mbT (l : List UInt8) (f t : Int) : List UInt8 := Lib.join (mbR (spl l) ((spl l).headD []).length f t) [47]
def mbOk (l : List UInt8) (f t : Int) : Bool := goodB l && boC (spl l) ((spl l).headD []).length f t

set_option maxRecDepth 100000 in
set_option maxHeartbeats 2000000 in
theorem sMakeOnBoard_any (s : ByteArray) (f t : Int) (w : World) (hs : s.size ≤ maxLen) :
    Calls Tryd.prog 23 #[.string s, .agg #[.int .i64 f, .int .i64 t]] w fun e w' => e = .returned (.tuple #[.string (str (if mbOk (byt s) f t then mbT (byt s) f t else [])), .bool (mbOk (byt s) f t)]) ∧ Below w.heap.size w w' := by
  obtain ⟨W0, hW0⟩ : ∃ W0, W0 = w.alloc (Obj.cells #[.int .i64 f, .int .i64 t] 46) := ⟨_, rfl⟩
  have hb0 : Below w.heap.size w W0 := by rw [hW0]; exact (Below.refl _ _).alloc (Nat.le_refl _) _
  have k0 : W0.cell? ⟨w.heap.size, 0, none⟩ = some (.int .i64 f) := by rw [hW0, World.cell?_alloc_new]; rfl
  have k1 : W0.cell? ⟨w.heap.size, 1, none⟩ = some (.int .i64 t) := by rw [hW0, World.cell?_alloc_new]; rfl
  have hlw : w.heap.size < W0.heap.size := by rw [hW0]; simp
  have HR := Lib.hid (fun wx => boRows_any s wx hs)
  have HB0 := Lib.hid hb0
  clear hb0
  obtain ⟨V, hV⟩ : ∃ V, V = Value.tuple #[.string (str (if mbOk (byt s) f t then mbT (byt s) f t else [])), .bool (mbOk (byt s) f t)] := ⟨_, rfl⟩
  rw [← hV]
  unfold mbOk mbT at hV
  cases hc : goodB (byt s)
  · rw [hc] at HR hV
    have HV : Hid (V = .tuple #[.string (str []), .bool false]) := Lib.hid hV
    clear hc hV
    go_enter Tryd.func23, Tryd.ntmps23
    go_wp2_with fail
    rw [← hW0]
    clear hW0
    refine (HR.out _).mono ?_
    rintro e w1 (⟨h, _⟩ | ⟨_, rfl, hb1⟩)
    · cases h
    have HB := Lib.hid (HB0.out.trans (hb1.mono HB0.out.size))
    clear hb1
    go_wp2_with fail
    go_ret2
    exact ⟨congrArg Ending.returned HV.out.symm, HB.out⟩
  · have G := good_R hc
    rw [hc] at HR hV
    have HCN := Lib.hid (fun A cap wx (h : StAt wx A (spl (byt s))) => boCan_any (spl (byt s)) ((spl (byt s)).headD []).length A cap f t wx h G.hh.1 G.hh.2 G.hw.1 G.hw.2 G.hl)
    have HMK := Lib.hid (fun (h : boC (spl (byt s)) ((spl (byt s)).headD []).length f t = true) A cap wx (hA : StAt wx A (spl (byt s))) => boMake_ok G h A cap wx hA)
    have HTX := Lib.hid (fun A cap wx (h : StAt wx A (mbR (spl (byt s)) ((spl (byt s)).headD []).length f t)) => boText_any (mbR (spl (byt s)) ((spl (byt s)).headD []).length f t) A cap wx h (by rw [mbR_len]; have := G.hh.2; omega) (fun r hr => by rw [mbR_rows G.hl f t r hr]; have := G.hw.2; omega))
    have HLN := Lib.hid (mbR_len (spl (byt s)) ((spl (byt s)).headD []).length f t)
    clear hc G
    generalize mbR (spl (byt s)) ((spl (byt s)).headD []).length f t = Q at HMK HTX hV HLN
    cases hb : boC (spl (byt s)) ((spl (byt s)).headD []).length f t
    · rw [hb] at HCN hV
      have HV : Hid (V = .tuple #[.string (str []), .bool false]) := Lib.hid hV
      clear hb hV HMK HTX HLN
      generalize spl (byt s) = R at HCN HR
      go_enter Tryd.func23, Tryd.ntmps23
      go_wp2_with fail
      rw [← hW0]
      clear hW0
      refine (HR.out _).mono ?_
      rintro e w1 (⟨_, A, cap, rfl, hcap, hA, hb1⟩ | ⟨h, _⟩)
      rotate_left
      · cases h
      have d0 := ((bcell hb1).1 _ 0 hlw).trans k0
      have d1 := ((bcell hb1).1 _ 1 hlw).trans k1
      have HA := Lib.hid hA
      have HB := Lib.hid (HB0.out.trans (hb1.mono HB0.out.size))
      clear hA hb1 k0 k1
      go_wp2_with fail
      refine (HCN.out _ _ _ HA.out).mono ?_
      rintro e w2 ⟨rfl, hb2⟩
      have HB2 := Lib.hid (HB.out.trans (hb2.mono HB.out.size))
      clear hb2
      go_wp2_with fail
      go_ret2
      exact ⟨congrArg Ending.returned HV.out.symm, HB2.out⟩
    · have HMK2 := Lib.hid (HMK.out hb)
      rw [hb] at HCN hV
      have HV : Hid (V = .tuple #[.string (str (Lib.join Q [47])), .bool true]) := Lib.hid hV
      clear hb hV HMK
      generalize spl (byt s) = R at HCN HR HMK2 HLN
      go_enter Tryd.func23, Tryd.ntmps23
      go_wp2_with fail
      rw [← hW0]
      clear hW0
      refine (HR.out _).mono ?_
      rintro e w1 (⟨_, A, cap, rfl, hcap, hA, hb1⟩ | ⟨h, _⟩)
      rotate_left
      · cases h
      have hl1 : w.heap.size < w1.heap.size := Nat.lt_of_lt_of_le hlw hb1.size
      have d0 := ((bcell hb1).1 _ 0 hlw).trans k0
      have d1 := ((bcell hb1).1 _ 1 hlw).trans k1
      have HA := Lib.hid hA
      have HB := Lib.hid (HB0.out.trans (hb1.mono HB0.out.size))
      clear hA hb1 k0 k1
      go_wp2_with fail
      refine (HCN.out _ _ _ HA.out).mono ?_
      rintro e w2 ⟨rfl, hb2⟩
      have e0 := ((bcell hb2).1 _ 0 hl1).trans d0
      have e1 := ((bcell hb2).1 _ 1 hl1).trans d1
      have HA2 := Lib.hid (HA.out.below hb2)
      have HB2 := Lib.hid (HB.out.trans (hb2.mono HB.out.size))
      clear hb2 d0 d1
      go_wp2_with fail
      refine (HMK2.out _ _ _ HA2.out).mono ?_
      rintro e w3 ⟨v3, rfl, o3, hb3⟩
      rw [← HLN.out] at o3
      obtain ⟨A3, c3, rfl, _, _, hA3, _⟩ := st_own o3
      have HA3 := Lib.hid hA3
      have HB3 := Lib.hid (HB2.out.trans (hb3.mono HB2.out.size))
      clear o3 hb3 hA3
      go_wp2_with fail
      refine (HTX.out _ _ _ HA3.out).mono ?_
      rintro e w4 ⟨rfl, rfl⟩
      go_wp2_with fail
      go_ret2
      exact ⟨congrArg Ending.returned HV.out.symm, HB3.out⟩
end Go.Proofs.YtjnidfleccbdbaaDoor
