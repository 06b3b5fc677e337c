/- Contracts: the first and the last exchange, the program's. -/
import Derived.Test.YtjadnfnpbacfdaaDoorSwH
import Derived.Test.YtjadnfnpbacfdaaDoorSwZ
import Derived.Test.YtjadnfnpbacfdaaDoorSwM
import Derived.Test.YtjadnfnpbacfdaaDoorSwF
import Derived.Deep.LoopGhost
import Derived.Test.YtjadnfnpbacfdaaDoorMoves
namespace Go.Proofs.YtjadnfnpbacfdaaDoor
open Go.RowKit Go.Shelf Go.Maps

/-- The exchange is there. -/
def hasX (t g f : Int) : Bool := few t g f && decide (0 < swN (firstL t.toNat g.toNat f.toNat))
/-- The moves of the first exchange, or the last one. -/
def movX (last : Bool) (t g f : Int) : List (Int × Int) := exM last (msL (firstL t.toNat g.toNat f.toNat)).toNat (firstL t.toNat g.toNat f.toNat)
def FxYes (l : List (Int × Int)) (w : World) (e : Ending) (w' : World) : Prop :=
  ∃ v, e = .returned (.tuple #[v, .bool true]) ∧ w'.ownsRow w.heap.size 64 2 v l.length (flat l) ∧ Below w.heap.size w w'
def FxNo (w : World) (e : Ending) (w' : World) : Prop := e = .returned (.tuple #[.slice none 0 0, .bool false]) ∧ Below w.heap.size w w'
set_option maxRecDepth 100000 in
set_option maxHeartbeats 8000000 in
theorem firstEx_no (t g f : Int) (w : World) (h : hasX t g f = false) :
    Calls Tryd.prog 15 #[.int .i64 t, .int .i64 g, .int .i64 f] w (FxNo w) := by
  cases hc : few t g f
  · have HX := Lib.hid (fun wx => exchangeOf_no t g f wx hc)
    clear hc h
    go_enter Tryd.func15, Tryd.ntmps15
    go_wp2_with fail
    refine (HX.out _).mono ?_
    rintro e w1 ⟨rfl, hb1⟩
    have HB := Lib.hid hb1
    clear hb1
    go_wp2_with fail
    go_ret2
    exact ⟨rfl, HB.out.alloc HB.out.size _⟩
  · have HX := Lib.hid (fun wx => exchangeOf_yes t g f wx hc)
    have hg := first_goodT hc
    have h8 : (t + g + f).toNat ≤ 8 := by have := (few_iff t g f).1 hc; omega
    have HLA := Lib.hid (fun x (hx : x ∈ swA (firstL t.toNat g.toNat f.toNat)) => G8.of (swA_good hg x hx) h8)
    have HL8 := Lib.hid (G8.of hg h8)
    have HD0 : Hid (decide (0 < lvN (swA (firstL t.toNat g.toNat f.toNat)) (firstL t.toNat g.toNat f.toNat)) = false) := Lib.hid (by
      rw [lvN_root]
      unfold hasX at h
      rw [hc] at h
      simpa using h)
    clear hc hg h8 h
    generalize firstL t.toNat g.toNat f.toNat = l at *
    go_enter Tryd.func15, Tryd.ntmps15
    go_wp2_with fail
    refine (HX.out _).mono ?_
    rintro e w1 ⟨bm, D, c0, c1, c2, c3, c4, c5, c6, c7, hc, rfl, hbm, hmap, hlv, hb1⟩
    have HEX := Lib.hid (fun wx (hm : wx.ownsMap Tryd.prog 53 iRw bm (swA l).length D) => exists_any l (swA l) c0 c1 c2 c3 c4 c5 c6 c7 (msL l) bm (swA l).length D wx hc HL8.out hm hlv HLA.out)
    have HM1 := Lib.hid (hmap.alloc (Obj.cells #[.int .u8 c0, .int .u8 c1, .int .u8 c2, .int .u8 c3, .int .u8 c4, .int .u8 c5, .int .u8 c6, .int .u8 c7, .int .i64 (msL l), .map (some bm)] 57))
    have HB1 := Lib.hid (hb1.alloc hb1.size (Obj.cells #[.int .u8 c0, .int .u8 c1, .int .u8 c2, .int .u8 c3, .int .u8 c4, .int .u8 c5, .int .u8 c6, .int .u8 c7, .int .i64 (msL l), .map (some bm)] 57))
    clear hmap hb1 hc hlv
    generalize msL l = ms at *
    go_wp2_with fail
    refine (HEX.out _ HM1.out).mono ?_
    rintro e w3 ⟨rfl, hb3⟩
    rw [HD0.out]
    have HB3 := Lib.hid (HB1.out.trans (hb3.mono HB1.out.size))
    clear hb3
    go_wp2_with fail
    go_ret2
    exact ⟨rfl, HB3.out⟩
set_option maxRecDepth 100000 in
set_option maxHeartbeats 8000000 in
theorem firstEx_yes (t g f : Int) (w : World) (h : hasX t g f = true) :
    Calls Tryd.prog 15 #[.int .i64 t, .int .i64 g, .int .i64 f] w (FxYes (movX false t g f) w) := by
  have hc : few t g f = true := by unfold hasX at h; rw [Bool.and_eq_true] at h; exact h.1
  have h0 : 0 < swN (firstL t.toNat g.toNat f.toNat) := by unfold hasX at h; rw [Bool.and_eq_true] at h; simpa using h.2
  have HX := Lib.hid (fun wx => exchangeOf_yes t g f wx hc)
  have hg := first_goodT hc
  have h8 : (t + g + f).toNat ≤ 8 := by have := (few_iff t g f).1 hc; omega
  have HLA := Lib.hid (fun x (hx : x ∈ swA (firstL t.toNat g.toNat f.toNat)) => G8.of (swA_good hg x hx) h8)
  have HL8 := Lib.hid (G8.of hg h8)
  have HD0 : Hid (decide (0 < lvN (swA (firstL t.toNat g.toNat f.toNat)) (firstL t.toNat g.toNat f.toNat)) = true) := Lib.hid (by
    rw [lvN_root]
    simpa using h0)
  have hm0 := (live_ms _ _ hg (Nat.le_refl _) h0).1
  have hw1 := wayL_le hg
  unfold movX
  have HPO := Lib.hid (fun c0 c1 c2 c3 c4 c5 c6 c7 K bm k D wx hc hK hm hv => playOut_first (t + g + f).toNat (firstL t.toNat g.toNat f.toNat) c0 c1 c2 c3 c4 c5 c6 c7 K bm k D wx hc hg h8 hK hm hv)
  generalize firstL t.toNat g.toNat f.toNat = l at *
  obtain ⟨K, hK⟩ : ∃ K : Nat, msL l = (K : Int) := ⟨(msL l).toNat, by omega⟩
  have hK5 : K ≤ 50000 := by
    have : msL l = wayL l - ((pairSt l).1 : Int) := rfl
    omega
  have HKK := Lib.hid (show (msL l).toNat = K by omega)
  rw [HKK.out]
  unfold ExYes at HX
  rw [hK] at HX
  clear hc hg h8 h h0 hm0 hw1 hK
  go_enter Tryd.func15, Tryd.ntmps15
  go_wp2_with fail
  refine (HX.out _).mono ?_
  rintro e w1 ⟨bm, D, c0, c1, c2, c3, c4, c5, c6, c7, hc, rfl, hbm, hmap, hlv, hb1⟩
  have HEX := Lib.hid (fun wx (hm : wx.ownsMap Tryd.prog 53 iRw bm (swA l).length D) => exists_any l (swA l) c0 c1 c2 c3 c4 c5 c6 c7 (K : Int) bm (swA l).length D wx hc HL8.out hm hlv HLA.out)
  have HPL := Lib.hid (fun wx (hm : wx.ownsMap Tryd.prog 53 iRw bm (swA l).length D) => HPO.out c0 c1 c2 c3 c4 c5 c6 c7 K bm (swA l).length D wx hc hK5 hm hlv)
  have HM1 := Lib.hid (hmap.alloc (Obj.cells #[.int .u8 c0, .int .u8 c1, .int .u8 c2, .int .u8 c3, .int .u8 c4, .int .u8 c5, .int .u8 c6, .int .u8 c7, .int .i64 (K : Int), .map (some bm)] 57))
  have HB1 := Lib.hid (hb1.alloc hb1.size (Obj.cells #[.int .u8 c0, .int .u8 c1, .int .u8 c2, .int .u8 c3, .int .u8 c4, .int .u8 c5, .int .u8 c6, .int .u8 c7, .int .i64 (K : Int), .map (some bm)] 57))
  have hx1 : Hid ((w1.alloc (Obj.cells #[.int .u8 c0, .int .u8 c1, .int .u8 c2, .int .u8 c3, .int .u8 c4, .int .u8 c5, .int .u8 c6, .int .u8 c7, .int .i64 (K : Int), .map (some bm)] 57)).heap[w1.heap.size]? = some (Obj.cells #[.int .u8 c0, .int .u8 c1, .int .u8 c2, .int .u8 c3, .int .u8 c4, .int .u8 c5, .int .u8 c6, .int .u8 c7, .int .i64 (K : Int), .map (some bm)] 57)) := Lib.hid (heap_alloc_new w1 _)
  clear hmap hb1 hc hlv HPO
  go_wp2_with fail
  refine (HEX.out _ HM1.out).mono ?_
  rintro e w3 ⟨rfl, hb3⟩
  rw [HD0.out]
  have hx3 := (hb3.block w1.heap.size (by simp)).trans hx1.out
  have q0 : w3.cell? ⟨w1.heap.size, 0, none⟩ = some (.int .u8 c0) := by simp [World.cell?, hx3]
  have q1 : w3.cell? ⟨w1.heap.size, 1, none⟩ = some (.int .u8 c1) := by simp [World.cell?, hx3]
  have q2 : w3.cell? ⟨w1.heap.size, 2, none⟩ = some (.int .u8 c2) := by simp [World.cell?, hx3]
  have q3 : w3.cell? ⟨w1.heap.size, 3, none⟩ = some (.int .u8 c3) := by simp [World.cell?, hx3]
  have q4 : w3.cell? ⟨w1.heap.size, 4, none⟩ = some (.int .u8 c4) := by simp [World.cell?, hx3]
  have q5 : w3.cell? ⟨w1.heap.size, 5, none⟩ = some (.int .u8 c5) := by simp [World.cell?, hx3]
  have q6 : w3.cell? ⟨w1.heap.size, 6, none⟩ = some (.int .u8 c6) := by simp [World.cell?, hx3]
  have q7 : w3.cell? ⟨w1.heap.size, 7, none⟩ = some (.int .u8 c7) := by simp [World.cell?, hx3]
  have q8 : w3.cell? ⟨w1.heap.size, 8, none⟩ = some (.int .i64 (K : Int)) := by simp [World.cell?, hx3]
  have q9 : w3.cell? ⟨w1.heap.size, 9, none⟩ = some (.map (some bm)) := by simp [World.cell?, hx3]
  have HM3 := Lib.hid (HM1.out.kept (grown_of_below hb3) (by simp))
  have HB3 := Lib.hid (HB1.out.trans (hb3.mono HB1.out.size))
  clear hb3 hx3
  go_wp2_with fail
  refine (HPL.out _ HM3.out).mono ?_
  rintro e w4 ⟨v, rfl, ho4, hb4⟩
  have HO4 := Lib.hid (own_lowerW ho4 HB3.out.size)
  have HB4 := Lib.hid (HB3.out.trans (hb4.mono HB3.out.size))
  clear ho4 hb4 q0 q1 q2 q3 q4 q5 q6 q7 q8 q9
  go_wp2_with fail
  go_ret2
  exact ⟨v, rfl, HO4.out, HB4.out⟩
set_option maxRecDepth 100000 in
set_option maxHeartbeats 8000000 in
theorem lastEx_no (t g f : Int) (w : World) (h : hasX t g f = false) :
    Calls Tryd.prog 20 #[.int .i64 t, .int .i64 g, .int .i64 f] w (FxNo w) := by
  cases hc : few t g f
  · have HX := Lib.hid (fun wx => exchangeOf_no t g f wx hc)
    clear hc h
    go_enter Tryd.func20, Tryd.ntmps20
    go_wp2_with fail
    refine (HX.out _).mono ?_
    rintro e w1 ⟨rfl, hb1⟩
    have HB := Lib.hid hb1
    clear hb1
    go_wp2_with fail
    go_ret2
    exact ⟨rfl, HB.out.alloc HB.out.size _⟩
  · have HX := Lib.hid (fun wx => exchangeOf_yes t g f wx hc)
    have hg := first_goodT hc
    have h8 : (t + g + f).toNat ≤ 8 := by have := (few_iff t g f).1 hc; omega
    have HLA := Lib.hid (fun x (hx : x ∈ swA (firstL t.toNat g.toNat f.toNat)) => G8.of (swA_good hg x hx) h8)
    have HL8 := Lib.hid (G8.of hg h8)
    have HD0 : Hid (decide (0 < lvN (swA (firstL t.toNat g.toNat f.toNat)) (firstL t.toNat g.toNat f.toNat)) = false) := Lib.hid (by
      rw [lvN_root]
      unfold hasX at h
      rw [hc] at h
      simpa using h)
    clear hc hg h8 h
    generalize firstL t.toNat g.toNat f.toNat = l at *
    go_enter Tryd.func20, Tryd.ntmps20
    go_wp2_with fail
    refine (HX.out _).mono ?_
    rintro e w1 ⟨bm, D, c0, c1, c2, c3, c4, c5, c6, c7, hc, rfl, hbm, hmap, hlv, hb1⟩
    have HEX := Lib.hid (fun wx (hm : wx.ownsMap Tryd.prog 53 iRw bm (swA l).length D) => exists_any l (swA l) c0 c1 c2 c3 c4 c5 c6 c7 (msL l) bm (swA l).length D wx hc HL8.out hm hlv HLA.out)
    have HM1 := Lib.hid (hmap.alloc (Obj.cells #[.int .u8 c0, .int .u8 c1, .int .u8 c2, .int .u8 c3, .int .u8 c4, .int .u8 c5, .int .u8 c6, .int .u8 c7, .int .i64 (msL l), .map (some bm)] 57))
    have HB1 := Lib.hid (hb1.alloc hb1.size (Obj.cells #[.int .u8 c0, .int .u8 c1, .int .u8 c2, .int .u8 c3, .int .u8 c4, .int .u8 c5, .int .u8 c6, .int .u8 c7, .int .i64 (msL l), .map (some bm)] 57))
    clear hmap hb1 hc hlv
    generalize msL l = ms at *
    go_wp2_with fail
    refine (HEX.out _ HM1.out).mono ?_
    rintro e w3 ⟨rfl, hb3⟩
    rw [HD0.out]
    have HB3 := Lib.hid (HB1.out.trans (hb3.mono HB1.out.size))
    clear hb3
    go_wp2_with fail
    go_ret2
    exact ⟨rfl, HB3.out⟩
set_option maxRecDepth 100000 in
set_option maxHeartbeats 8000000 in
theorem lastEx_yes (t g f : Int) (w : World) (h : hasX t g f = true) :
    Calls Tryd.prog 20 #[.int .i64 t, .int .i64 g, .int .i64 f] w (FxYes (movX true t g f) w) := by
  have hc : few t g f = true := by unfold hasX at h; rw [Bool.and_eq_true] at h; exact h.1
  have h0 : 0 < swN (firstL t.toNat g.toNat f.toNat) := by unfold hasX at h; rw [Bool.and_eq_true] at h; simpa using h.2
  have HX := Lib.hid (fun wx => exchangeOf_yes t g f wx hc)
  have hg := first_goodT hc
  have h8 : (t + g + f).toNat ≤ 8 := by have := (few_iff t g f).1 hc; omega
  have HLA := Lib.hid (fun x (hx : x ∈ swA (firstL t.toNat g.toNat f.toNat)) => G8.of (swA_good hg x hx) h8)
  have HL8 := Lib.hid (G8.of hg h8)
  have HD0 : Hid (decide (0 < lvN (swA (firstL t.toNat g.toNat f.toNat)) (firstL t.toNat g.toNat f.toNat)) = true) := Lib.hid (by
    rw [lvN_root]
    simpa using h0)
  have hm0 := (live_ms _ _ hg (Nat.le_refl _) h0).1
  have hw1 := wayL_le hg
  unfold movX
  have HPO := Lib.hid (fun c0 c1 c2 c3 c4 c5 c6 c7 K bm k D wx hc hK hm hv => playOut_last (t + g + f).toNat (firstL t.toNat g.toNat f.toNat) c0 c1 c2 c3 c4 c5 c6 c7 K bm k D wx hc hg h8 hK hm hv)
  generalize firstL t.toNat g.toNat f.toNat = l at *
  obtain ⟨K, hK⟩ : ∃ K : Nat, msL l = (K : Int) := ⟨(msL l).toNat, by omega⟩
  have hK5 : K ≤ 50000 := by
    have : msL l = wayL l - ((pairSt l).1 : Int) := rfl
    omega
  have HKK := Lib.hid (show (msL l).toNat = K by omega)
  rw [HKK.out]
  unfold ExYes at HX
  rw [hK] at HX
  clear hc hg h8 h h0 hm0 hw1 hK
  go_enter Tryd.func20, Tryd.ntmps20
  go_wp2_with fail
  refine (HX.out _).mono ?_
  rintro e w1 ⟨bm, D, c0, c1, c2, c3, c4, c5, c6, c7, hc, rfl, hbm, hmap, hlv, hb1⟩
  have HEX := Lib.hid (fun wx (hm : wx.ownsMap Tryd.prog 53 iRw bm (swA l).length D) => exists_any l (swA l) c0 c1 c2 c3 c4 c5 c6 c7 (K : Int) bm (swA l).length D wx hc HL8.out hm hlv HLA.out)
  have HPL := Lib.hid (fun wx (hm : wx.ownsMap Tryd.prog 53 iRw bm (swA l).length D) => HPO.out c0 c1 c2 c3 c4 c5 c6 c7 K bm (swA l).length D wx hc hK5 hm hlv)
  have HM1 := Lib.hid (hmap.alloc (Obj.cells #[.int .u8 c0, .int .u8 c1, .int .u8 c2, .int .u8 c3, .int .u8 c4, .int .u8 c5, .int .u8 c6, .int .u8 c7, .int .i64 (K : Int), .map (some bm)] 57))
  have HB1 := Lib.hid (hb1.alloc hb1.size (Obj.cells #[.int .u8 c0, .int .u8 c1, .int .u8 c2, .int .u8 c3, .int .u8 c4, .int .u8 c5, .int .u8 c6, .int .u8 c7, .int .i64 (K : Int), .map (some bm)] 57))
  have hx1 : Hid ((w1.alloc (Obj.cells #[.int .u8 c0, .int .u8 c1, .int .u8 c2, .int .u8 c3, .int .u8 c4, .int .u8 c5, .int .u8 c6, .int .u8 c7, .int .i64 (K : Int), .map (some bm)] 57)).heap[w1.heap.size]? = some (Obj.cells #[.int .u8 c0, .int .u8 c1, .int .u8 c2, .int .u8 c3, .int .u8 c4, .int .u8 c5, .int .u8 c6, .int .u8 c7, .int .i64 (K : Int), .map (some bm)] 57)) := Lib.hid (heap_alloc_new w1 _)
  clear hmap hb1 hc hlv HPO
  go_wp2_with fail
  refine (HEX.out _ HM1.out).mono ?_
  rintro e w3 ⟨rfl, hb3⟩
  rw [HD0.out]
  have hx3 := (hb3.block w1.heap.size (by simp)).trans hx1.out
  have q0 : w3.cell? ⟨w1.heap.size, 0, none⟩ = some (.int .u8 c0) := by simp [World.cell?, hx3]
  have q1 : w3.cell? ⟨w1.heap.size, 1, none⟩ = some (.int .u8 c1) := by simp [World.cell?, hx3]
  have q2 : w3.cell? ⟨w1.heap.size, 2, none⟩ = some (.int .u8 c2) := by simp [World.cell?, hx3]
  have q3 : w3.cell? ⟨w1.heap.size, 3, none⟩ = some (.int .u8 c3) := by simp [World.cell?, hx3]
  have q4 : w3.cell? ⟨w1.heap.size, 4, none⟩ = some (.int .u8 c4) := by simp [World.cell?, hx3]
  have q5 : w3.cell? ⟨w1.heap.size, 5, none⟩ = some (.int .u8 c5) := by simp [World.cell?, hx3]
  have q6 : w3.cell? ⟨w1.heap.size, 6, none⟩ = some (.int .u8 c6) := by simp [World.cell?, hx3]
  have q7 : w3.cell? ⟨w1.heap.size, 7, none⟩ = some (.int .u8 c7) := by simp [World.cell?, hx3]
  have q8 : w3.cell? ⟨w1.heap.size, 8, none⟩ = some (.int .i64 (K : Int)) := by simp [World.cell?, hx3]
  have q9 : w3.cell? ⟨w1.heap.size, 9, none⟩ = some (.map (some bm)) := by simp [World.cell?, hx3]
  have HM3 := Lib.hid (HM1.out.kept (grown_of_below hb3) (by simp))
  have HB3 := Lib.hid (HB1.out.trans (hb3.mono HB1.out.size))
  clear hb3 hx3
  go_wp2_with fail
  refine (HPL.out _ HM3.out).mono ?_
  rintro e w4 ⟨v, rfl, ho4, hb4⟩
  have HO4 := Lib.hid (own_lowerW ho4 HB3.out.size)
  have HB4 := Lib.hid (HB3.out.trans (hb4.mono HB3.out.size))
  clear ho4 hb4 q0 q1 q2 q3 q4 q5 q6 q7 q8 q9
  go_wp2_with fail
  go_ret2
  exact ⟨v, rfl, HO4.out, HB4.out⟩
end Go.Proofs.YtjadnfnpbacfdaaDoor
namespace Go.Proofs.YtjadnfnpbacfdaaDoor
open Go.RowKit

section
variable {W W' : World} {B n b m : Nat} {ks : List (List UInt8)} {vs vw v : Value} {xs : List Value}
/-- A row of moves is no memory of the box. -/
theorem EnM.apart (h : EnM W B n ks vs vw) (hr : W.ownsRow b 64 2 v m xs) : ∀ g, v.ownBlock = some g → ¬ Ex B W g := by
  intro g hg he
  rcases (en_ex h.box g).1 he with rfl | h1 | h1
  · rcases hr.2 with ⟨hv, _⟩ | ⟨g', cap, cur, rfl, _, hc, _⟩
    · subst hv; cases hg
    · injection hg with hg
      have hg : g' = g := hg
      subst hg
      rw [h.box] at hc
      injection hc with hc
      injection hc with _ hc _
      exact absurd hc (by decide)
  · rcases own_apart hr h.row1 (by decide) with h2 | h2
    · rw [hg] at h2; cases h2
    · exact h2 (hg.trans h1.symm)
  · rcases own_apart hr h.row2 (by decide) with h2 | h2
    · rw [hg] at h2; cases h2
    · exact h2 (hg.trans h1.symm)
/-- The row of moves grows: what is known stays. -/
theorem EnM.grownM (h : EnM W B n ks vs vw) (hr : W.ownsRow b 64 2 v m xs) (hg : W.grownBy W' v.ownBlock) : EnM W' B n ks vs vw := by
  have ha := h.apart hr
  have h1 : some B ≠ v.ownBlock := fun e => ha B e.symm (.inl rfl)
  refine ⟨(hg.block B h.lt h1).trans h.box, h.row1.kept hg ?_, h.row2.kept hg ?_, h.nodup, h.good⟩
  · rcases own_apart h.row1 hr (by decide) with h2 | h2
    · exact .inl h2
    · exact .inr h2
  · rcases own_apart h.row2 hr (by decide) with h2 | h2
    · exact .inl h2
    · exact .inr h2
/-- .. and the row stays while more becomes known. -/
theorem own_kpx (h : EnM W B n ks vs vw) (hr : W.ownsRow b 64 2 v m xs) (hk : KpX B W W') : W'.ownsRow b 64 2 v m xs := by
  have ha := h.apart hr
  refine ⟨hr.1, ?_⟩
  rcases hr.2 with h2 | ⟨g, cap, cur, rfl, hb, hg, r⟩
  · exact .inl h2
  · exact .inr ⟨g, cap, cur, rfl, hb, (hk.keep g (Array.getElem?_eq_some_iff.1 hg).1 (ha g rfl)).trans hg, r⟩
end
/-- Where the model's exchange stands: what is known, and the moves made. -/
structure OnW (W : World) (B n : Nat) (F : List (Int × Int)) (v : Value) : Prop where
  kn : ∃ ks, EnW W B n ks
  row : W.ownsRow (B + 1) 64 2 v F.length (flat F)
section
variable {W W' w3 : World} {B n : Nat} {F G : List (Int × Int)} {v v' : Value}
theorem OnW.lt (h : OnW W B n F v) : B < W.heap.size := by
  obtain ⟨ks, hk⟩ := h.kn
  exact hk.lt
theorem OnW.below (h : OnW W B n F v) (hb : Below W.heap.size W W') : OnW W' B n F v := by
  obtain ⟨ks, hk⟩ := h.kn
  exact ⟨⟨ks, hk.below hb⟩, own_below h.row hb⟩
theorem OnW.kp (h : OnW W B n F v) (hk : KpX B W W') {ks' : List (List UInt8)} (hn : EnW W' B n ks') : OnW W' B n F v := by
  obtain ⟨ks, vs, vw, hm⟩ := h.kn
  exact ⟨⟨ks', hn⟩, own_kpx hm h.row hk⟩
theorem OnW.more (h : OnW W B n F v) (hg : W.grownBy W' v.ownBlock) (hr : W'.ownsRow (B + 1) 64 2 v' G.length (flat G)) : OnW W' B n G v' := by
  obtain ⟨ks, vs, vw, hm⟩ := h.kn
  exact ⟨⟨ks, vs, vw, hm.grownM h.row hg⟩, hr⟩
end
end Go.Proofs.YtjadnfnpbacfdaaDoor
namespace Go.Proofs.YtjadnfnpbacfdaaDoor
open Go.RowKit

theorem exN_ms {n : Nat} (last : Bool) : ∀ (i : Nat) (l : List UInt8), goodT n l → 0 < swN l → (i : Int) ≤ msL l → msL (exN last i l) = msL l - i
  | 0, l, _, _, _ => by simp [exN]
  | i + 1, l, h, h0, hi => by
    have hne : l ≠ lastL l := fun e => by
      have := (live_ms _ l h (Nat.le_refl _) h0).2.2 e
      omega
    obtain ⟨m, hm⟩ := pick_some last h h0 hne
    obtain ⟨h1, h2⟩ := pick_mem hm
    have hv := mv_nx h1
    have h3 := (steps_line n).one l _ h hv
    have h4 := exN_ms last i (behind (str l) m.1 m.2) (nx_good h hv) h2 (by omega)
    have e : exN last (i + 1) l = exN last i (behind (str l) m.1 m.2) := by show (match pickM last l with | some m => _ | none => _) = _; rw [hm]
    rw [e, h4, h3]
    push_cast
    omega

set_option maxRecDepth 100000 in
set_option maxHeartbeats 8000000 in
theorem swOne_first (t g f : Int) (w : World) (h : hasX t g f = true) :
    Calls Tryd.prog 45 #[.int .i64 t, .int .i64 g, .int .i64 f, .bool false] w (FxYes (movX false t g f) w) := by
  obtain ⟨i0, hi, hz0, hz1, hz2⟩ := info_parts Tryd.infoM
  have HI := Lib.hid hi
  have HZ0 := Lib.hid hz0
  have HZ1 := Lib.hid hz1
  have HZ2 := Lib.hid hz2
  clear hi hz0 hz1 hz2
  have hc : few t g f = true := by unfold hasX at h; rw [Bool.and_eq_true] at h; exact h.1
  have h0 : 0 < swN (firstL t.toNat g.toNat f.toNat) := by unfold hasX at h; rw [Bool.and_eq_true] at h; simpa using h.2
  have hg := first_goodT hc
  have hf := (few_iff t g f).1 hc
  have h8 : (t + g + f).toNat ≤ 8 := by omega
  have HF := Lib.hid (fun wx => liFirst_any t g f wx (by omega) (by omega) (by omega))
  generalize (t + g + f).toNat = n at hg h8
  have HFR := Lib.hid (fun B x W ks (hx : goodT n x) hk => from_any _ B n x W ks rfl hx hk)
  unfold movX
  generalize firstL t.toNat g.toNat f.toNat = l at *
  have hm0 := (live_ms _ _ hg (Nat.le_refl _) h0).1
  have hw1 := wayL_le hg
  obtain ⟨K, hK⟩ : ∃ K : Nat, msL l = (K : Int) := ⟨(msL l).toNat, by omega⟩
  have hK5 : K ≤ 50000 := by
    have : msL l = wayL l - ((pairSt l).1 : Int) := rfl
    omega
  rw [show (msL l).toNat = K by omega]
  have HEN := Lib.hid (exM_end false K l hg h0 hK)
  have HGX := Lib.hid (fun i => exN_good (n := n) false i l hg)
  have HLX := Lib.hid (fun i => exN_live false i l h0)
  have HMX := Lib.hid (fun i (hi : i ≤ K) => exN_ms (n := n) false i l hg h0 (by omega))
  have HG := Lib.hid hg
  have HMS := Lib.hid hK
  have hn0 : ((swN l : Int) == 0) = false := by simp; omega
  have HN0 := Lib.hid hn0
  clear hc h0 hg hf hm0 hw1 hK h hn0
  go_enter Tryd.func45, Tryd.ntmps45
  go_wp2_with fail
  refine (HF.out _).mono ?_
  rintro e w1 ⟨rfl, rfl⟩
  go_wp2_with fail
  refine (HFR.out _ l _ [] HG.out (EnW.new w n)).mono ?_
  rintro e w3 ⟨rfl, ks', hk, _, hkp⟩
  have hn := EnW.new w n
  have HB3 := Lib.hid (((Below.refl w.heap.size w).alloc (Nat.le_refl _) (.cells #[.slice none 0 0, .slice none 0 0] 69)).trans (hkp.to_below (by simp) (fun k he => (hn.ex_in k he).1)))
  have HO3 : Hid (OnW w3 w.heap.size n [] (.slice none 0 0)) := Lib.hid ⟨⟨ks', hk⟩, World.ownsRow_nil _ _ _ _⟩
  have hb0 := HN0.out
  clear hkp hk hn
  go_wp2_with fail
  go_loopg [11, 12] K (fun gk s v wr => ∃ i : Nat, i + gk = K ∧ s = .string (str (exN false i l)) ∧ Hid (OnW wr w.heap.size n (exM false i l) v) ∧ Hid (Below w.heap.size w wr))
  case atStart => exact ⟨0, by omega, rfl, HO3, HB3⟩
  case round =>
    obtain ⟨i, hik, rfl, HO, HB⟩ := hrel
    obtain ⟨W, hW⟩ : ∃ W : World, W = wr := ⟨_, rfl⟩
    subst hW
    obtain ⟨G, hG⟩ : ∃ G : Nat, G = gk := ⟨_, rfl⟩
    subst hG
    clear HO3 HB3
    have hgx := HGX.out i
    have hlx := HLX.out i
    have hs12 : (str (exN false i l)).size ≤ 12 := ((goodL_iff _).1 hgx.1).2.1
    have HLL := Lib.hid (fun wx => liLast_any (str (exN false i l)) wx (by omega))
    rw [byt_str] at HLL
    by_cases hlt : i < K
    · have hms := HMX.out i (by omega)
      have hne : exN false i l ≠ lastL (exN false i l) := fun e => by
        have := (live_ms _ _ hgx (Nat.le_refl _) hlx).2.2 e
        have := HMS.out
        omega
      have hbn : ((str (exN false i l)).toList == (str (lastL (exN false i l))).toList) = false := by rw [same_str]; simpa using hne
      obtain ⟨mp, hmp⟩ := pick_some false hgx hlx hne
      have HSN := Lib.hid (exM_snoc false i l)
      have HMV := Lib.hid (fun wx => liMoves_all (str (exN false i l)) wx hgx.1)
      rw [sw_kinds, show mvsTo (canM (str (exN false i l))) (str (exN false i l)) (str (exN false i l)).size = mvL (exN false i l) from rfl] at HMV
      have hFL := exM_len false i l
      generalize exN false i l = x at *
      generalize exM false i l = F at *
      have HMP := Lib.hid hmp
      have HGXX := Lib.hid hgx
      have HAT := Lib.hid (fun i (h : i < (mvL x).length) => mvL_at x i h)
      have HMM := Lib.hid (fun i (h : i < (mvL x).length) => mv_nx (List.getElem_mem h))
      have HPK : Hid (pickM false x = (mvL x).find? (lvM x)) := Lib.hid rfl
      have hMle : (mvL x).length ≤ 12 := by have := mvL_le x; rw [str_size] at hs12; omega
      clear hmp hne hms hlx hgx
      go_wp2_with fail
      refine (HLL.out _).mono ?_
      rintro e w2 ⟨rfl, rfl⟩
      go_wp2_with fail
      refine (HMV.out _).mono ?_
      rintro e w2 ⟨v2, rfl, ho2, hb2⟩
      obtain ⟨A2, cap2, rfl, at2⟩ := at_of_own ho2
      have HX2 : Hid (∀ a, A2 = some a → W.heap.size ≤ a.block) := Lib.hid fun a e => by
        subst e
        exact (ho2.lt _ rfl).1
      have HO2 := Lib.hid (HO.out.below hb2)
      have HB2 := Lib.hid (HB.out.trans (hb2.mono HB.out.size))
      have HOB : Hid (∀ ks, EnW W w.heap.size n ks → ∀ a, A2 = some a → ¬ Ex w.heap.size w2 a.block) := Lib.hid fun ks hk a e he => by
        have h1 := hk.ex_old hb2 he
        have h2 := HX2.out a e
        omega
      have HNX : Hid (∀ a, A2 = some a → ¬ Ex w.heap.size w2 a.block) := Lib.hid (by
        obtain ⟨ks, hk⟩ := HO.out.kn
        exact HOB.out ks hk)
      have HVB : Hid (∀ a, A2 = some a → u12.ownBlock ≠ some a.block) := Lib.hid fun a e e2 => by
        have h1 := (HO.out.row.lt a.block e2).2
        have h2 := HX2.out a e
        omega
      have AT2 := Lib.hid at2
      clear ho2 hb2 at2 HO HB HOB HX2
      generalize hMM : mvL x = M at AT2 HAT HMM HPK hMle ⊢
      clear hMM
      go_wp2_with fail
      go_loopg [14, 35] M.length (fun gj s t wr => ∃ j : Nat, j + gj = M.length ∧ s = .int .i64 0 ∧ t = .int .i64 j ∧ Hid (∀ q (hq : q < M.length), q < j → lvM x M[q] = false) ∧ Hid (OnW wr w.heap.size n F u12) ∧ Hid (KpX w.heap.size w2 wr) ∧ Hid (Below w.heap.size w wr))
      case atStart => exact ⟨0, by omega, rfl, rfl, Lib.hid (fun q _ h => by omega), HO2, Lib.hid (KpX.refl _ _), HB2⟩
      case round =>
        obtain ⟨j, hjk, rfl, rfl, HN, HOJ, HKJ, HBJ⟩ := hrel
        obtain ⟨V, hV⟩ : ∃ V : World, V = wr := ⟨_, rfl⟩
        subst hV
        clear HO2 HB2
        by_cases hltj : j < M.length
        · have hcells := fun (wx : World) (hk : KpX w.heap.size w2 wx) => (AT2.out.kp hk HNX.out) j hltj
          obtain ⟨a, b, e1, e2, hai, hbi, hneab, _⟩ := HAT.out j hltj
          have hMj : M[j] = ((a : Int), (b : Int)) := Prod.ext e1 e2
          rw [e1, e2] at hcells
          have HMJ := Lib.hid hMj
          have hyx := HMM.out j hltj
          rw [e1, e2, show behind (str x) (a : Int) (b : Int) = putL (str x) a b from rfl] at hyx
          have hgy := nx_good HGXX.out hyx
          have HBEH : Hid (behind (str x) M[j].1 M[j].2 = putL (str x) a b) := Lib.hid (by rw [hMj]; rfl)
          have hlvM : lvM x M[j] = decide (0 < swN (putL (str x) a b)) := by rw [hMj]; rfl
          have HMK := Lib.hid (fun wx => liMake_any (str x) a b wx (by omega) hai hbi hneab)
          generalize putL (str x) a b = y at HMK hyx hgy HBEH hlvM
          have HFY := Lib.hid (fun W ks hk => HFR.out w.heap.size y W ks hgy hk)
          have HCE := Lib.hid hcells
          obtain ⟨gm, rfl, zz, p1, q1⟩ := hcells V HKJ.out
          have j1 : (0 : Int) ≤ (j : Int) := by omega
          have j2 : (j : Int) < (M.length : Int) := by omega
          have hbm : w.heap.size < V.heap.size := HOJ.out.lt
          clear e1 e2 hMj hyx hgy hneab hcells
          go_upto_region 12 with fail
          generalize hV1 : V.alloc (Obj.cells #[Value.int IntKind.i64 ↑a, Value.int IntKind.i64 ↑b] 64) = V1
          have hbv : Below V.heap.size V V1 := by rw [← hV1]; exact (Below.refl _ _).alloc (Nat.le_refl _) _
          have r0 : V1.cell? ⟨V.heap.size, 0, none⟩ = some (.int .i64 a) := by rw [← hV1, World.cell?_alloc_new]; rfl
          have r1 : V1.cell? ⟨V.heap.size, 1, none⟩ = some (.int .i64 b) := by rw [← hV1, World.cell?_alloc_new]; rfl
          have HO3 := Lib.hid (HOJ.out.below hbv)
          have HK3 := Lib.hid (HKJ.out.trans (KpX.below hbm hbv))
          have HB3 := Lib.hid (HBJ.out.trans (hbv.mono HBJ.out.size))
          clear hV1 hbv p1 q1 hbm
          go_wp2_with fail
          refine (HMK.out _).mono ?_
          rintro e w3 ⟨rfl, hb3⟩
          have HO4 := Lib.hid (HO3.out.below hb3)
          have HK4 := Lib.hid (HK3.out.trans (KpX.below HO3.out.lt hb3))
          have HB4 := Lib.hid (HB3.out.trans (hb3.mono HB3.out.size))
          clear hb3 r0 r1 HO3 HK3 HB3
          obtain ⟨ks4, hk4⟩ := HO4.out.kn
          go_wp2_with fail
          refine (HFY.out _ ks4 hk4).mono ?_
          rintro e w5 ⟨rfl, ks5, hk5, _, hkp⟩
          have HO5 := Lib.hid (HO4.out.kp hkp hk5)
          have HK5 := Lib.hid (HK4.out.trans hkp)
          have HB5 : Hid (Below w.heap.size w w5) := Lib.hid (HB4.out.trans ((hkp.to_below (by have := HO4.out.lt; omega) (fun k he => (hk4.ex_in k he).1)).mono (Nat.le_refl _)))
          clear hkp hk5 hk4 HO4 HK4 HB4
          obtain ⟨g5, eg, zz5, p5, q5⟩ := HCE.out w5 HK5.out
          obtain rfl : gm = g5 := by simpa using eg
          clear eg
          by_cases hpos : 0 < swN y
          · have hpi : (0 : Int) < (swN y : Int) := by omega
            have HYES : Hid (exM false (i + 1) l = F ++ [((a : Int), (b : Int))] ∧ exN false (i + 1) l = y) := Lib.hid (by
              obtain ⟨h1, h2⟩ := HSN.out
              have h3 := find_at (lvM x) M j hltj (fun q hq => HN.out q (by omega) hq) (by rw [hlvM]; simpa using hpos)
              rw [HPK.out, h3] at h1 h2
              refine ⟨by rw [h1]; simp [HMJ.out], ?_⟩
              rw [h2]
              exact HBEH.out)
            clear hpos hlvM
            have hrow := HO5.out.row
            have hvg := HVB.out _ rfl
            have H2 : ∀ u ∈ [Value.int .i64 (a : Int), Value.int .i64 (b : Int)], u.oneCell' = true := fun u hu => by simp at hu; rcases hu with rfl | rfl <;> rfl
            have H3 : F.length + 1 ≤ maxLen := by unfold maxLen; omega
            have H4 : (F.length + 1) * 16 ≤ 140737488355328 := by omega
            have H5 : w.heap.size + 1 ≤ (w5.alloc (Obj.cells #[.int .i64 (a : Int), .int .i64 (b : Int)] 64)).heap.size := by have := HO5.out.lt; simp; omega
            generalize swN y = sy at hpi ⊢
            go_wp2_with (first | (at_builtin; refine wpList_append_own _ rfl _ _ 22 rfl (w.heap.size + 1) 64 i0 (.agg #[.int .i64 0, .int .i64 0]) 2 16 Tryd.underlying22 HI.out HZ0.out HZ1.out HZ2.out rfl (by decide) _ _ _ rfl (hrow.alloc _) ⟨w5.heap.size, 0, none⟩ 1 1 [.int .i64 (a : Int), .int .i64 (b : Int)] rfl rfl (cell_two_new _ _ _ _) H2 H3 H4 H5 ?_; intro v' w6 hown' hgrow _; have hbk := hgrow.block gm (by simp; omega) (fun e => hvg e.symm); have ha5 := ((Below.refl w5.heap.size w5).alloc (Nat.le_refl _) (Obj.cells #[.int .i64 (a : Int), .int .i64 (b : Int)] 64)); have p6 := (World.cell?_of_block (a := ⟨gm, j * 2, none⟩) hbk).trans ((ha5.cell (p := ⟨gm, j * 2, none⟩) zz5).trans p5); have q6 := (World.cell?_of_block (a := ⟨gm, j * 2 + 1, none⟩) hbk).trans ((ha5.cell (p := ⟨gm, j * 2 + 1, none⟩) zz5).trans q5)))
            have hrow6 : w6.ownsRow (w.heap.size + 1) 64 2 v' (F ++ [((a : Int), (b : Int))]).length (flat (F ++ [((a : Int), (b : Int))])) := by
              have e1 : flat (F ++ [((a : Int), (b : Int))]) = flat F ++ [.int .i64 (a : Int), .int .i64 (b : Int)] := by simp [flat]
              rw [e1, List.length_append]
              exact hown'
            have HO6 := Lib.hid ((HO5.out.below ha5).more hgrow hrow6)
            have HB6 := Lib.hid ((HB5.out.alloc HB5.out.size (Obj.cells #[.int .i64 (a : Int), .int .i64 (b : Int)] 64)).grown hgrow (by have := HB5.out.size; simp; omega) (fun g e => by have := (hrow.lt g e).1; omega))
            refine (HMK.out _).mono ?_
            rintro e w7 ⟨rfl, hb7⟩
            have HO7 := Lib.hid (HO6.out.below hb7)
            have HB7 := Lib.hid (HB6.out.trans (hb7.mono HB6.out.size))
            clear hb7 p5 q5 p6 q6 hgrow hown' hbk ha5 hrow6 hrow HO6 HB6
            go_wp2_with fail
            go_roundg (G - 1)
            case measure => omega
            case rel => exact ⟨i + 1, by omega, by rw [HYES.out.2], by rw [HYES.out.1]; exact HO7, HB7⟩
          · have hpi : ¬ (0 : Int) < (swN y : Int) := by omega
            have HN2 : Hid (∀ q (hq : q < M.length), q < j + 1 → lvM x M[q] = false) := Lib.hid (fun q hq hqj => by
              by_cases h : q < j
              · exact HN.out q hq h
              · obtain rfl : q = j := by omega
                rw [hlvM]
                simpa using hpos)
            clear hpos hlvM
            generalize swN y = sy at hpi ⊢
            go_wp2_with fail
            go_roundg (gk - 1)
            case measure => omega
            case rel => exact ⟨j + 1, by omega, rfl, by go_num, HN2, HO5, HK5, HB5⟩
        · exfalso
          have h3 := find_no (lvM x) M (fun q hq => HN.out q hq (by omega))
          have h4 := HMP.out
          rw [HPK.out, h3] at h4
          cases h4
    · obtain rfl : i = K := by omega
      have he : exN false i l = lastL (exN false i l) := (live_ms _ _ hgx (Nat.le_refl _) hlx).2.1 (by have := HMX.out i (Nat.le_refl _); have := HMS.out; omega)
      have hbn : ((str (exN false i l)).toList == (str (lastL (exN false i l))).toList) = true := by rw [same_str]; simpa using he
      clear he hgx hlx hs12
      generalize exN false i l = x at *
      go_wp2_with fail
      refine (HLL.out _).mono ?_
      rintro e w2 ⟨rfl, rfl⟩
      go_wp2_with fail
      go_ret2
      exact ⟨_, rfl, own_lowerW HO.out.row (by omega), HB.out⟩
end Go.Proofs.YtjadnfnpbacfdaaDoor
namespace Go.Proofs.YtjadnfnpbacfdaaDoor
open Go.RowKit

/-- The moves that are answered. -/
def fxL (t g f : Int) : List (Int × Int) := if hasX t g f then movX false t g f else []
def FxAns (t g f : Int) (w : World) (e : Ending) (w' : World) : Prop :=
  ∃ v, e = .returned (.tuple #[v, .bool (hasX t g f)]) ∧ w'.ownsRow w.heap.size 64 2 v (fxL t g f).length (flat (fxL t g f)) ∧ Below w.heap.size w w'
theorem fx_yes {t g f : Int} {w w' : World} {e : Ending} (h : hasX t g f = true) (hp : FxYes (movX false t g f) w e w') : FxAns t g f w e w' := by
  obtain ⟨v, he, ho, hb⟩ := hp
  exact ⟨v, by rw [h]; exact he, by unfold fxL; rw [if_pos h]; exact ho, hb⟩
theorem fx_no {t g f : Int} {w w' : World} {e : Ending} (h : hasX t g f = false) (hp : FxNo w e w') : FxAns t g f w e w' := by
  obtain ⟨he, hb⟩ := hp
  refine ⟨_, by rw [h]; exact he, ?_, hb⟩
  unfold fxL
  rw [if_neg (by rw [h]; decide)]
  exact World.ownsRow_nil _ _ _ _
theorem firstEx_any (t g f : Int) (w : World) : Calls Tryd.prog 15 #[.int .i64 t, .int .i64 g, .int .i64 f] w (FxAns t g f w) := by
  cases h : hasX t g f
  · exact (firstEx_no t g f w h).mono fun e w' hp => fx_no h hp
  · exact (firstEx_yes t g f w h).mono fun e w' hp => fx_yes h hp
set_option maxRecDepth 100000 in
set_option maxHeartbeats 4000000 in
theorem swOne_no (t g f : Int) (b : Bool) (w : World) (hc : few t g f = true) (h0 : swN (firstL t.toNat g.toNat f.toNat) = 0) :
    Calls Tryd.prog 45 #[.int .i64 t, .int .i64 g, .int .i64 f, .bool b] w (FxNo w) := by
  have hf := (few_iff t g f).1 hc
  have hg := first_goodT hc
  have HF := Lib.hid (fun wx => liFirst_any t g f wx (by omega) (by omega) (by omega))
  have HFR := Lib.hid (fun B W ks hk => from_any _ B _ (firstL t.toNat g.toNat f.toNat) W ks rfl hg hk)
  rw [h0] at HFR
  clear hc hf hg h0
  generalize firstL t.toNat g.toNat f.toNat = l at *
  go_enter Tryd.func45, Tryd.ntmps45
  go_wp2_with fail
  refine (HF.out _).mono ?_
  rintro e w2 ⟨rfl, rfl⟩
  go_wp2_with fail
  refine (HFR.out _ _ [] (EnW.new w _)).mono ?_
  rintro e w3 ⟨rfl, ks', hk, _, hkp⟩
  have hn := EnW.new w (t + g + f).toNat
  have HB3 := Lib.hid (((Below.refl w.heap.size w).alloc (Nat.le_refl _) (.cells #[.slice none 0 0, .slice none 0 0] 69)).trans (hkp.to_below (by simp) (fun k he => (hn.ex_in k he).1)))
  clear hkp hk hn
  go_wp2_with fail
  go_ret2
  exact ⟨rfl, HB3.out⟩
set_option maxHeartbeats 4000000 in
theorem sFirstEx_any (t g f : Int) (w : World) : Calls Tryd.prog 14 #[.int .i64 t, .int .i64 g, .int .i64 f] w (FxAns t g f w) := by
  have HN := Lib.hid (fun wx => swNumbers_any t g f wx)
  cases hc : few t g f
  · have h : hasX t g f = false := by unfold hasX; rw [hc]; rfl
    have HC := Lib.hid hc
    have HQ := Lib.hid (fun e w' => fx_no (w := w) (w' := w') (e := e) h)
    clear hc h
    go_enter Tryd.func14, Tryd.ntmps14
    go_wp2_with fail
    refine (HN.out _).mono ?_
    rintro e w1 ⟨rfl, hb1⟩
    rw [HC.out]
    have HB := Lib.hid hb1
    clear hb1
    go_wp2_with fail
    go_ret2
    exact HQ.out _ _ ⟨rfl, HB.out⟩
  · have HC := Lib.hid hc
    have HO : Hid (∀ wx, Calls Tryd.prog 45 #[.int .i64 t, .int .i64 g, .int .i64 f, .bool false] wx (FxAns t g f wx)) := Lib.hid fun wx => by
      cases h : hasX t g f
      · refine (swOne_no t g f false wx hc ?_).mono fun e w' hp => fx_no h hp
        unfold hasX at h
        rw [hc] at h
        simpa using h
      · exact (swOne_first t g f wx h).mono fun e w' hp => fx_yes h hp
    clear hc
    go_enter Tryd.func14, Tryd.ntmps14
    go_wp2_with fail
    refine (HN.out _).mono ?_
    rintro e w1 ⟨rfl, hb1⟩
    rw [HC.out]
    have HB := Lib.hid hb1
    clear hb1
    go_wp2_with fail
    refine (HO.out _).mono ?_
    rintro e w2 ⟨v, rfl, ho, hb2⟩
    have HP : Hid (∃ u, u = v ∧ w2.ownsRow w.heap.size 64 2 u (fxL t g f).length (flat (fxL t g f)) ∧ Below w.heap.size w w2) := Lib.hid ⟨v, rfl, own_lowerW ho HB.out.size, HB.out.trans (hb2.mono HB.out.size)⟩
    clear ho hb2
    go_wp2_with fail
    go_ret2
    obtain ⟨u, rfl, h1, h2⟩ := HP.out
    exact ⟨u, rfl, h1, h2⟩
end Go.Proofs.YtjadnfnpbacfdaaDoor
namespace Go.Proofs.YtjadnfnpbacfdaaDoor
open Go.RowKit

theorem at_ownF {w : World} {base : Nat} {A : Option Addr} {cap : Nat} {l : List (Int × Int)} (h : w.ownsRow base 64 2 (.slice A l.length cap) l.length (flat l)) : MvAt w A l := by
  obtain ⟨A', cap', e, h⟩ := at_of_own h
  injection e with e1 _ e2
  subst e1
  exact h
theorem fxL_len (t g f : Int) : (fxL t g f).length ≤ 200 := by
  unfold fxL
  split
  · rename_i h
    have hc : few t g f = true := by unfold hasX at h; rw [Bool.and_eq_true] at h; exact h.1
    have hf := (few_iff t g f).1 hc
    have h1 : wayL (firstL t.toNat g.toNat f.toNat) ≤ 128 := by
      rw [firstL_way]
      have a1 := Nat.mul_le_mul (show t.toNat ≤ 8 by omega) (show g.toNat + f.toNat ≤ 8 by omega)
      have a2 := Nat.mul_le_mul (show f.toNat ≤ 8 by omega) (show t.toNat + g.toNat ≤ 8 by omega)
      omega
    have h2 := exM_len false (msL (firstL t.toNat g.toNat f.toNat)).toNat (firstL t.toNat g.toNat f.toNat)
    have h3 : msL (firstL t.toNat g.toNat f.toNat) = wayL (firstL t.toNat g.toNat f.toNat) - ((pairSt (firstL t.toNat g.toNat f.toNat)).1 : Int) := rfl
    unfold movX
    omega
  · simp
set_option maxRecDepth 100000 in
set_option maxHeartbeats 4000000 in
theorem walk_FnExactFirstExchange (t : Int) (_ : (Lit.int .i64 t).wf = true) (g : Int) (_ : (Lit.int .i64 g).wf = true) (f : Int) (_ : (Lit.int .i64 f).wf = true) (w : World) :
    Calls Tryd.prog 3 #[.int .i64 t, .int .i64 g, .int .i64 f] w fun e w' => e = .returned (.bool true) ∧ Below w.heap.size w w' := by
  have HS := Lib.hid (fun wx => sFirstEx_any t g f wx)
  have HP := Lib.hid (fun wx => firstEx_any t g f wx)
  have hL := fxL_len t g f
  unfold FxAns at HS HP
  generalize fxL t g f = L at *
  generalize hasX t g f = b at *
  go_enter Tryd.func3, Tryd.ntmps3
  go_wp2_with fail
  refine (HS.out _).mono ?_
  rintro e w2 ⟨v0, rfl, ho2, hb2⟩
  obtain ⟨A0, cap0, rfl, _⟩ := at_of_own ho2
  have L0 : Hid (∀ k, (Value.slice A0 L.length cap0).ownBlock = some k → k < w2.heap.size) := fun k e => (ho2.lt k e).2
  have O0 := Lib.hid ho2
  have hB2 := Lib.hid hb2
  have z2 := hb2.size
  clear ho2 hb2
  go_wp2_with fail
  refine (HP.out _).mono ?_
  rintro e w4 ⟨v4, rfl, ho4, hb4⟩
  obtain ⟨A4, cap4, rfl, _⟩ := at_of_own ho4
  have O4 := Lib.hid ho4
  have O0 := Lib.hid (own_below O0.out hb4)
  have hB4 := Lib.hid (hB2.out.trans (hb4.mono hB2.out.size))
  have z4 := hb4.size
  clear ho4 hb4 hB2
  go_wp2_with fail
  refine (eqMoveS_same L _ _ _ _ _ (at_ownF O4.out) (at_ownF O0.out) (by omega)).mono ?_
  rintro e w9 ⟨rfl, hb9⟩
  have O4 := Lib.hid (own_below O4.out hb9)
  have O0 := Lib.hid (own_below O0.out hb9)
  have hB9 := Lib.hid (hB4.out.trans (hb9.mono hB4.out.size))
  have z9 := hb9.size
  clear hb9 hB4
  have hz2 := hB9.out.size
  go_wp2_with fail
  refine (markMoveS_any L.length 1 w2.heap.size L _ _ rfl O4.out (by omega) (by omega)).mono ?_
  rintro e w10 ⟨rfl, ho10, hb10⟩
  have O4 := Lib.hid ho10
  have O0 : Hid (w10.ownsRow w.heap.size 64 2 (.slice A0 L.length cap0) L.length (flat L)) := by
    refine ⟨O0.out.1, ?_⟩
    rcases O0.out.2 with h2 | ⟨gg, cap, cur, e, hb, hg, r⟩
    · exact .inl h2
    · refine .inr ⟨gg, cap, cur, e, hb, (hb10.block gg ?_).trans hg, r⟩
      have := L0.out gg (by rw [e]; rfl)
      omega
  have hB10 := Lib.hid (hB9.out.trans (hb10.mono (by omega)))
  clear ho10 hb10 hB9
  go_wp2_with fail
  refine (heldMoveS_any L.length 1 w2.heap.size _ _ O4.out (by omega) (by omega)).mono ?_
  rintro e wz ⟨rfl, rfl⟩
  go_wp2_with fail
  refine (HP.out _).mono ?_
  rintro e w12 ⟨v12, rfl, ho12, hb12⟩
  obtain ⟨A12, cap12, rfl, _⟩ := at_of_own ho12
  have AT12 := Lib.hid (at_ownF ho12)
  have O4 := Lib.hid (own_below O4.out hb12)
  have O0 := Lib.hid (own_below O0.out hb12)
  have hB12 := Lib.hid (hB10.out.trans (hb12.mono hB10.out.size))
  clear ho12 hb12 hB10
  go_wp2_with fail
  refine (eqMoveS_same L _ _ _ _ _ AT12.out (at_ownF O0.out) (by omega)).mono ?_
  rintro e w13 ⟨rfl, hb13⟩
  have O4 := Lib.hid (own_below O4.out hb13)
  have hB13 := Lib.hid (hB12.out.trans (hb13.mono hB12.out.size))
  clear hb13 hB12 O0 AT12
  go_wp2_with fail
  refine (heldMoveS_any L.length 1 w2.heap.size _ _ O4.out (by omega) (by omega)).mono ?_
  rintro e wz ⟨rfl, rfl⟩
  go_wp2
  go_ret
  exact ⟨rfl, hB13.out⟩
end Go.Proofs.YtjadnfnpbacfdaaDoor
