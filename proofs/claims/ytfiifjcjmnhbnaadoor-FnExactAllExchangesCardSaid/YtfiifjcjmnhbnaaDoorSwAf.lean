/- AllExchanges: what is answered; the program's side. -/
import Derived.Test.YtfiifjcjmnhbnaaDoorSwAe
import Derived.Test.YtfiifjcjmnhbnaaDoorSwZ
import Derived.Test.YtfiifjcjmnhbnaaDoorSwF
namespace Go.Proofs.YtfiifjcjmnhbnaaDoor
open Go.RowKit Go.Shelf Go.Maps

/-- All exchanges, in order. -/
def axL (t g f : Int) : List (List (Int × Int)) := if 0 < swN (firstL t.toNat g.toNat f.toNat) then allF (msL (firstL t.toNat g.toNat f.toNat)).toNat (firstL t.toNat g.toNat f.toNat) else []
/-- Are they told? -/
def axB (t g f : Int) : Bool := few t g f && decide (swN (firstL t.toNat g.toNat f.toNat) ≤ 200)
def AxPost (A : List (List (Int × Int))) (c : Bool) (w : World) (e : Ending) (w' : World) : Prop :=
  ∃ v vs, e = .returned (.tuple #[v, .bool c]) ∧ PlW w' w.heap.size v vs A ∧ Below w.heap.size w w'
theorem PlW.nil (W : World) (base : Nat) : PlW W base (.slice none 0 0) [] [] :=
  ⟨World.ownsRow_nil _ _ _ _, rfl, fun i v p h => by simp at h, fun i j v u g h => by simp at h⟩
theorem PlW.low {W : World} {base b' : Nat} {vp : Value} {vs : List Value} {PS : List (List (Int × Int))} (h : PlW W base vp vs PS) (hle : b' ≤ base) : PlW W b' vp vs PS :=
  ⟨own_lowA h.out hle, h.len, fun i v p a b => own_lowA (h.inn i v p a b) hle, h.apart⟩
theorem ms_way {n : Nat} {l : List UInt8} (h : goodT n l) : msL l ≤ 50000 := by
  have := wayL_le h
  unfold msL
  omega
set_option maxRecDepth 100000 in
set_option maxHeartbeats 4000000 in
theorem allEx_no (t g f : Int) (w : World) (h : axB t g f = false) :
    Calls Tryd.prog 5 #[.int .i64 t, .int .i64 g, .int .i64 f] w (AxPost [] false w) := by
  cases hc : few t g f
  · have HX := Lib.hid (fun wx => exchangeOf_no t g f wx hc)
    clear hc h
    go_enter Tryd.func5, Tryd.ntmps5
    go_wp2_with fail
    refine (HX.out _).mono ?_
    rintro e w1 ⟨rfl, hb1⟩
    have HB := Lib.hid hb1
    clear hb1
    go_wp2_with fail
    go_ret2
    exact ⟨_, [], rfl, PlW.nil _ _, HB.out.alloc HB.out.size _⟩
  · have HX := Lib.hid (fun wx => exchangeOf_yes t g f wx hc)
    have hg := first_goodT hc
    have h8 : (t + g + f).toNat ≤ 8 := by have := (few_iff t g f).1 hc; omega
    have HLA := Lib.hid (fun x (hx : x ∈ swA (firstL t.toNat g.toNat f.toNat)) => G8.of (swA_good hg x hx) h8)
    have HL8 := Lib.hid (G8.of hg h8)
    have HRT := Lib.hid (lvN_root (firstL t.toNat g.toNat f.toNat))
    have hmany : (200 : Int) < (swN (firstL t.toNat g.toNat f.toNat) : Int) := by
      unfold axB at h
      rw [hc] at h
      simp at h
      omega
    clear hc hg h8 h
    generalize firstL t.toNat g.toNat f.toNat = l at *
    go_enter Tryd.func5, Tryd.ntmps5
    go_wp2_with fail
    refine (HX.out _).mono ?_
    rintro e w1 ⟨bm, D, c0, c1, c2, c3, c4, c5, c6, c7, hc, rfl, hbm, hmap, hlv, hb1⟩
    have hlk := live_at hmap hlv HLA.out HL8.out
    rw [hc.val, HRT.out] at hlk
    have HLK := Lib.hid hlk
    have HMAP := Lib.hid hmap
    have HB := Lib.hid hb1
    have hlk2 := HLK.out _ (HMAP.out.alloc (Obj.cells #[.int .u8 c0, .int .u8 c1, .int .u8 c2, .int .u8 c3, .int .u8 c4, .int .u8 c5, .int .u8 c6, .int .u8 c7, .int .i64 (msL l), .map (some bm)] 43))
    clear hlk hmap hb1 hc hlv HRT HL8
    generalize msL l = ms at *
    generalize swN l = q at *
    go_wp2_with fail
    go_ret2
    exact ⟨_, [], rfl, PlW.nil _ _, HB.out.alloc HB.out.size _⟩
set_option maxRecDepth 100000 in
set_option maxHeartbeats 4000000 in
theorem allEx_core (t g f : Int) (w : World) (hc : few t g f = true) (h200 : swN (firstL t.toNat g.toNat f.toNat) ≤ 200) (A : List (List (Int × Int))) (d : Bool) (hd : decide (0 < swN (firstL t.toNat g.toNat f.toNat)) = d)
    (hA1 : d = true → A = allF (msL (firstL t.toNat g.toNat f.toNat)).toNat (firstL t.toNat g.toNat f.toNat)) (hA2 : d = false → A = []) :
    Calls Tryd.prog 5 #[.int .i64 t, .int .i64 g, .int .i64 f] w (AxPost A true w) := by
  have HX := Lib.hid (fun wx => exchangeOf_yes t g f wx hc)
  have hg := first_goodT hc
  have h8 : (t + g + f).toNat ≤ 8 := by have := (few_iff t g f).1 hc; omega
  have HLA := Lib.hid (fun x (hx : x ∈ swA (firstL t.toNat g.toNat f.toNat)) => G8.of (swA_good hg x hx) h8)
  have HL8 := Lib.hid (G8.of hg h8)
  have HRT := Lib.hid (lvN_root (firstL t.toNat g.toNat f.toNat))
  have HRIN := Lib.hid (swA_root (firstL t.toNat g.toNat f.toNat))
  generalize (t + g + f).toNat = n at *
  generalize firstL t.toNat g.toNat f.toNat = l at *
  have HNOT : Hid (¬ (200 : Int) < (swN l : Int)) := Lib.hid (by omega)
  have HA1 := Lib.hid hA1
  have HA2 := Lib.hid hA2
  have HD := Lib.hid hd
  have HG := Lib.hid hg
  have H200 := Lib.hid h200
  have H8 := Lib.hid h8
  clear hc hg h200 h8 hA1 hA2 hd
  go_enter Tryd.func5, Tryd.ntmps5
  go_wp2_with fail
  refine (HX.out _).mono ?_
  rintro e w1 ⟨bm, D, c0, c1, c2, c3, c4, c5, c6, c7, hc, rfl, hbm, hmap, hlv, hb1⟩
  obtain ⟨W1, hW1⟩ : ∃ W1, W1 = w1.alloc (Obj.cells #[.int .u8 c0, .int .u8 c1, .int .u8 c2, .int .u8 c3, .int .u8 c4, .int .u8 c5, .int .u8 c6, .int .u8 c7, .int .i64 (msL l), .map (some bm)] 43) := ⟨_, rfl⟩
  have hlk := live_at hmap hlv HLA.out HL8.out
  rw [hc.val, HRT.out] at hlk
  have hM1 : W1.ownsMap Tryd.prog 39 iRw bm (swA l).length D := by rw [hW1]; exact hmap.alloc _
  have hlk2 := hlk _ (hmap.alloc (Obj.cells #[.int .u8 c0, .int .u8 c1, .int .u8 c2, .int .u8 c3, .int .u8 c4, .int .u8 c5, .int .u8 c6, .int .u8 c7, .int .i64 (msL l), .map (some bm)] 43))
  have hx1 : W1.heap[w1.heap.size]? = some (Obj.cells #[.int .u8 c0, .int .u8 c1, .int .u8 c2, .int .u8 c3, .int .u8 c4, .int .u8 c5, .int .u8 c6, .int .u8 c7, .int .i64 (msL l), .map (some bm)] 43) := by rw [hW1]; exact heap_alloc_new w1 _
  have HX1 := Lib.hid hx1
  have HB1 : Hid (Below w.heap.size w W1) := Lib.hid (by rw [hW1]; exact hb1.alloc hb1.size _)
  have HEX := Lib.hid (fun wx (hm : wx.ownsMap Tryd.prog 39 iRw bm (swA l).length D) => exists_any l (swA l) c0 c1 c2 c3 c4 c5 c6 c7 (msL l) bm (swA l).length D wx hc HL8.out hm hlv HLA.out)
  have HADD := Lib.hid (fun (k : Nat) wx hin h0 hk hm hlt => addPlays_any n bm (swA l).length l D HG.out H8.out hlv k l wx.heap.size (.slice none 0 0) [] [] (.slice none 0 0) [] wx hin h0 hk hm hlt (Nat.le_refl _) (PlW.nil _ _) (World.ownsRow_nil _ _ _ _) (fun x hx => by simp at hx))
  rw [HRT.out] at HEX
  rw [hc.val] at HADD
  have HM1 := Lib.hid hM1
  have hmsle := ms_way HG.out
  have hz1 : w1.heap.size < W1.heap.size := by rw [hW1]; simp
  have HW1 := Lib.hid hW1
  have HGEN : Hid (∀ k wx, wx.ownsMap Tryd.prog 39 iRw bm (swA l).length D → k = (msL l).toNat → 0 < swN l → Calls Tryd.prog 15 #[.map (some bm), .slice none 0 0, .agg #[.int .u8 c0, .int .u8 c1, .int .u8 c2, .int .u8 c3, .int .u8 c4, .int .u8 c5, .int .u8 c6, .int .u8 c7], .slice none 0 0] wx fun e w4 => ∃ v vs, e = .returned v ∧ PlW w4 wx.heap.size v vs (allF k l) ∧ Below wx.heap.size wx w4) := Lib.hid fun k wx hm hk h0 => by
    have hms := (live_ms _ l HG.out (Nat.le_refl _) h0).1
    refine (HADD.out k wx HRIN.out h0 (by omega) hm hm.lt (by have := H200.out; simp; omega) (by simp; omega)).mono ?_
    rintro e w4 ⟨v, rfl, ⟨⟨vs, h1, _⟩, _, h3, _⟩⟩
    exact ⟨v, vs, rfl, by simpa using h1, h3.below (Nat.le_refl _) (fun g e => by cases e) (fun g e => by cases e)⟩
  clear hlk hmap hb1 hc hlv HRT HL8 HX hM1 hx1 hW1 HADD
  rw [HD.out] at HEX
  cases d
  rotate_left
  · have h0 : 0 < swN l := by have := HD.out; simpa using this
    have hcall := fun wx hm => HGEN.out (msL l).toNat wx hm rfl h0
    rw [← HA1.out rfl] at hcall
    have HCALL := Lib.hid hcall
    clear HGEN h0 hmsle hcall HA1 HA2 HD
    generalize msL l = ms at *
    generalize swN l = q at *
    have hnot : decide ((200 : Int) < (q : Int)) = false := decide_eq_false (by have := HNOT.out; omega)
    go_wp2_with fail
    rw [← HW1.out]
    refine (HEX.out _ HM1.out).mono ?_
    rintro e w3 ⟨rfl, hb3⟩
    have HB3 := Lib.hid (HB1.out.trans (hb3.mono HB1.out.size))
    have HM3 := Lib.hid (HM1.out.kept (grown_of_below hb3) (by simp))
    have hx3 := (hb3.block w1.heap.size hz1).trans HX1.out
    have q0 : w3.cell? ⟨w1.heap.size, 0, none⟩ = some (.int .u8 c0) := by simp [World.cell?, hx3]
    have q1 : w3.cell? ⟨w1.heap.size, 1, none⟩ = some (.int .u8 c1) := by simp [World.cell?, hx3]
    have q2 : w3.cell? ⟨w1.heap.size, 2, none⟩ = some (.int .u8 c2) := by simp [World.cell?, hx3]
    have q3 : w3.cell? ⟨w1.heap.size, 3, none⟩ = some (.int .u8 c3) := by simp [World.cell?, hx3]
    have q4 : w3.cell? ⟨w1.heap.size, 4, none⟩ = some (.int .u8 c4) := by simp [World.cell?, hx3]
    have q5 : w3.cell? ⟨w1.heap.size, 5, none⟩ = some (.int .u8 c5) := by simp [World.cell?, hx3]
    have q6 : w3.cell? ⟨w1.heap.size, 6, none⟩ = some (.int .u8 c6) := by simp [World.cell?, hx3]
    have q7 : w3.cell? ⟨w1.heap.size, 7, none⟩ = some (.int .u8 c7) := by simp [World.cell?, hx3]
    have q9 : w3.cell? ⟨w1.heap.size, 9, none⟩ = some (.map (some bm)) := by simp [World.cell?, hx3]
    clear hx3 HX1 hb3 HEX HW1
    go_wp2_with fail
    refine (HCALL.out _ HM3.out).mono ?_
    rintro e w4 ⟨v, vs, rfl, h1, hb4⟩
    have HP4 := Lib.hid (h1.low HB3.out.size)
    have HB4 := Lib.hid (HB3.out.trans (hb4.mono HB3.out.size))
    clear h1 hb4
    go_wp2_with fail
    go_ret2
    exact ⟨v, vs, rfl, HP4.out, HB4.out⟩
  · have HNIL := Lib.hid (HA2.out rfl)
    clear HGEN hmsle HA1 HA2 HD
    generalize msL l = ms at *
    generalize swN l = q at *
    have hnot : decide ((200 : Int) < (q : Int)) = false := decide_eq_false (by have := HNOT.out; omega)
    go_wp2_with fail
    rw [← HW1.out]
    refine (HEX.out _ HM1.out).mono ?_
    rintro e w3 ⟨rfl, hb3⟩
    have HB3 := Lib.hid (HB1.out.trans (hb3.mono HB1.out.size))
    clear hb3 HEX HW1 HX1
    go_wp2_with fail
    go_ret2
    exact ⟨_, [], rfl, by rw [HNIL.out]; exact PlW.nil _ _, HB3.out⟩
theorem allEx_yes (t g f : Int) (w : World) (h : axB t g f = true) :
    Calls Tryd.prog 5 #[.int .i64 t, .int .i64 g, .int .i64 f] w (AxPost (axL t g f) true w) := by
  unfold axB at h
  obtain ⟨hc, h200⟩ := Bool.and_eq_true_iff.1 h
  refine allEx_core t g f w hc (of_decide_eq_true h200) _ _ rfl (fun hd => ?_) (fun hd => ?_)
  · unfold axL
    rw [if_pos (of_decide_eq_true hd)]
  · unfold axL
    rw [if_neg (of_decide_eq_false hd)]
end Go.Proofs.YtfiifjcjmnhbnaaDoor
