/- Contracts and the walk: how many exchanges there are. -/
import Derived.Test.YtjadnfnpbacfdaaDoorSwX
import Derived.Test.YtjadnfnpbacfdaaDoorSwM
namespace Go.Proofs.YtjadnfnpbacfdaaDoor
open Go.RowKit Go.Shelf Go.Maps

/-- How many exchanges there are. -/
def cxV (t g f : Int) : Value := intOr (few t g f) (swN (firstL t.toNat g.toNat f.toNat) : Int)
theorem lvN_root (l : List UInt8) : lvN (swA l) l = swN l := by
  unfold lvN
  rw [if_pos (swA_root l)]
set_option maxRecDepth 100000 in
set_option maxHeartbeats 4000000 in
theorem countEx_any (t g f : Int) (w : World) :
    Calls Tryd.prog 22 #[.int .i64 t, .int .i64 g, .int .i64 f] w fun e w' => e = .returned (cxV t g f) ∧ Below w.heap.size w w' := by
  cases hc : few t g f
  · have HX := Lib.hid (fun wx => exchangeOf_no t g f wx hc)
    have HV : Hid (cxV t g f = .tuple #[.int .i64 0, .bool false]) := Lib.hid (by unfold cxV; rw [hc]; rfl)
    have hlk := fun wx => Maps.look_nil (P := Tryd.prog) (w := wx) false Tryd.keysW Tryd.underlying55 (zeroIw wx) (keyW (l := []) (by decide))
    have hz : swpV [] = .agg #[.int .u8 0, .int .u8 0, .int .u8 0, .int .u8 0, .int .u8 0, .int .u8 0, .int .u8 0, .int .u8 0] := rfl
    rw [hz] at hlk
    rw [HV.out]
    clear hc hz
    go_enter Tryd.func22, Tryd.ntmps22
    go_wp2_with fail
    refine (HX.out _).mono ?_
    rintro e w1 ⟨rfl, hb1⟩
    have HB := Lib.hid hb1
    clear hb1
    go_wp2_with fail
    go_ret2
    exact ⟨rfl, HB.out.alloc HB.out.size _⟩
  · have HX := Lib.hid (fun wx => exchangeOf_yes t g f wx hc)
    have HV : Hid (cxV t g f = .tuple #[.int .i64 (swN (firstL t.toNat g.toNat f.toNat)), .bool true]) := Lib.hid (by unfold cxV; rw [hc]; rfl)
    have hg := first_goodT hc
    have h8 : (t + g + f).toNat ≤ 8 := by have := (few_iff t g f).1 hc; omega
    have HLA := Lib.hid (fun x (hx : x ∈ swA (firstL t.toNat g.toNat f.toNat)) => G8.of (swA_good hg x hx) h8)
    have HL8 := Lib.hid (G8.of hg h8)
    have HRT := Lib.hid (lvN_root (firstL t.toNat g.toNat f.toNat))
    rw [HV.out]
    clear hc hg h8
    generalize firstL t.toNat g.toNat f.toNat = l at *
    go_enter Tryd.func22, Tryd.ntmps22
    go_wp2_with fail
    refine (HX.out _).mono ?_
    rintro e w1 ⟨bm, D, c0, c1, c2, c3, c4, c5, c6, c7, hc, rfl, hbm, hmap, hlv, hb1⟩
    have hlk := live_at hmap hlv HLA.out HL8.out
    rw [hc.val, HRT.out] at hlk
    have HLK := Lib.hid hlk
    have HMAP := Lib.hid hmap
    have HB := Lib.hid hb1
    have hlk2 := HLK.out _ (HMAP.out.alloc (Obj.cells #[.int .u8 c0, .int .u8 c1, .int .u8 c2, .int .u8 c3, .int .u8 c4, .int .u8 c5, .int .u8 c6, .int .u8 c7, .int .i64 (msL l), .map (some bm)] 57))
    clear hlk hmap hb1 hc hlv
    generalize msL l = ms at *
    go_wp2_with fail
    go_ret2
    exact ⟨rfl, HB.out.alloc HB.out.size _⟩
set_option maxRecDepth 100000 in
set_option maxHeartbeats 4000000 in
theorem sCountEx_any (t g f : Int) (w : World) :
    Calls Tryd.prog 21 #[.int .i64 t, .int .i64 g, .int .i64 f] w fun e w' => e = .returned (cxV t g f) ∧ Below w.heap.size w w' := by
  have HN := Lib.hid (fun wx => swNumbers_any t g f wx)
  cases hc : few t g f
  · have HC := Lib.hid hc
    have HV : Hid (cxV t g f = .tuple #[.int .i64 0, .bool false]) := Lib.hid (by unfold cxV; rw [hc]; rfl)
    rw [HV.out]
    clear hc
    go_enter Tryd.func21, Tryd.ntmps21
    go_wp2_with fail
    refine (HN.out _).mono ?_
    rintro e w1 ⟨rfl, hb1⟩
    rw [HC.out]
    have HB := Lib.hid hb1
    clear hb1
    go_wp2_with fail
    go_ret2
    exact ⟨rfl, HB.out⟩
  · have HC := Lib.hid hc
    have HV : Hid (cxV t g f = .tuple #[.int .i64 (swN (firstL t.toNat g.toNat f.toNat)), .bool true]) := Lib.hid (by unfold cxV; rw [hc]; rfl)
    have hf := (few_iff t g f).1 hc
    have hg := first_goodT hc
    have HF := Lib.hid (fun wx => liFirst_any t g f wx (by omega) (by omega) (by omega))
    have HFR := Lib.hid (fun B W ks hk => from_any _ B _ (firstL t.toNat g.toNat f.toNat) W ks rfl hg hk)
    rw [HV.out]
    clear hc hf hg
    generalize firstL t.toNat g.toNat f.toNat = l at *
    go_enter Tryd.func21, Tryd.ntmps21
    go_wp2_with fail
    refine (HN.out _).mono ?_
    rintro e w1 ⟨rfl, hb1⟩
    rw [HC.out]
    have HB := Lib.hid hb1
    clear hb1
    go_wp2_with fail
    refine (HF.out _).mono ?_
    rintro e w2 ⟨rfl, rfl⟩
    go_wp2_with fail
    refine (HFR.out _ _ [] (EnW.new w1 _)).mono ?_
    rintro e w3 ⟨rfl, ks', hk, _, hkp⟩
    have hn := EnW.new w1 (t + g + f).toNat
    have hb3 := hkp.to_below (by simp) (fun k he => (hn.ex_in k he).1)
    have HB3 : Hid (Below w.heap.size w w3) := Lib.hid ((HB.out.alloc HB.out.size _).trans (hb3.mono (by have := HB.out.size; simp; omega)))
    clear hb3 hkp hk hn
    go_wp2_with fail
    go_ret2
    exact ⟨rfl, HB3.out⟩
set_option maxHeartbeats 4000000 in
theorem walk_FnExactCountExchanges (t : Int) (_ : (Lit.int .i64 t).wf = true) (g : Int) (_ : (Lit.int .i64 g).wf = true) (f : Int) (_ : (Lit.int .i64 f).wf = true) (w : World) :
    Calls Tryd.prog 5 #[.int .i64 t, .int .i64 g, .int .i64 f] w fun e w' => e = .returned (.bool true) ∧ Below w.heap.size w w' := by
  obtain ⟨n, b, hv⟩ : ∃ (n : Int) (b : Bool), cxV t g f = .tuple #[.int .i64 n, .bool b] := by
    unfold cxV intOr
    split
    · exact ⟨_, _, rfl⟩
    · exact ⟨_, _, rfl⟩
  have HS := Lib.hid (fun wx => sCountEx_any t g f wx)
  have HI := Lib.hid (fun wx => countEx_any t g f wx)
  rw [hv] at HS HI
  clear hv
  go_enter Tryd.func5, Tryd.ntmps5
  go_wp2_with fail
  refine (HS.out _).mono ?_
  rintro e w1 ⟨rfl, hb1⟩
  go_wp2_with fail
  refine (HI.out _).mono ?_
  rintro e w2 ⟨rfl, hb2⟩
  have HB := Lib.hid (hb1.trans (hb2.mono hb1.size))
  clear hb1 hb2
  go_wp2_with fail
  go_ret
  exact ⟨rfl, HB.out⟩
end Go.Proofs.YtjadnfnpbacfdaaDoor
