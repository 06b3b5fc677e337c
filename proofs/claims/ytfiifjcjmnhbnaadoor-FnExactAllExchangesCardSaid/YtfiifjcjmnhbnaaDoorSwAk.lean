/- AllExchanges: the model's side. -/
import Derived.Test.YtfiifjcjmnhbnaaDoorSwAj
import Derived.Test.YtfiifjcjmnhbnaaDoorSwAf
import Derived.Test.YtfiifjcjmnhbnaaDoorSwAg
namespace Go.Proofs.YtfiifjcjmnhbnaaDoor
open Go.RowKit Go.Shelf Go.Maps

def SxPost (A : List (List (Int × Int))) (c : Bool) (w : World) (e : Ending) (w' : World) : Prop :=
  ∃ A0 cap, e = .returned (.tuple #[.slice A0 A.length cap, .bool c]) ∧ NsAt w' A0 A ∧ Below w.heap.size w w'
set_option maxRecDepth 100000 in
set_option maxHeartbeats 4000000 in
theorem sAllEx_core (t g f : Int) (w : World) (hc : few t g f = true) (A : List (List (Int × Int))) (d : Bool) (hd : decide (0 < swN (firstL t.toNat g.toNat f.toNat)) = d) (h200 : swN (firstL t.toNat g.toNat f.toNat) ≤ 200)
    (hA1 : d = true → A = allF (msL (firstL t.toNat g.toNat f.toNat)).toNat (firstL t.toNat g.toNat f.toNat)) (hA2 : d = false → A = []) :
    Calls Tryd.prog 4 #[.int .i64 t, .int .i64 g, .int .i64 f] w (SxPost A true w) := by
  have HN := Lib.hid (fun wx => swNumbers_any t g f wx)
  have HC := Lib.hid hc
  have hf := (few_iff t g f).1 hc
  have hg := first_goodT hc
  have HF := Lib.hid (fun wx => liFirst_any t g f wx (by omega) (by omega) (by omega))
  have HFR := Lib.hid (fun B W ks hk => from_any _ B _ (firstL t.toNat g.toNat f.toNat) W ks rfl hg hk)
  have HG := Lib.hid hg
  have HA1 := Lib.hid hA1
  have HA2 := Lib.hid hA2
  have HD := Lib.hid hd
  have H200 := Lib.hid h200
  clear hc hf hg hA1 hA2 hd h200
  generalize (t + g + f).toNat = n at *
  generalize firstL t.toNat g.toNat f.toNat = l at *
  have HMO := Lib.hid (fun (k : Nat) base B O gv cv wx h0 hk hS hvm hbw hPS hF => swList_any n k base B O l (.slice none 0 0) [] [] gv cv [] wx HG.out h0 hk hS hvm (fun x hx => by simp at hx) hbw hPS hF)
  go_enter Tryd.func4, Tryd.ntmps4
  go_wp2_with fail
  refine (HN.out _).mono ?_
  rintro e w1 ⟨rfl, hb1⟩
  rw [HC.out]
  have HB := Lib.hid hb1
  clear hb1
  go_wp2_with fail
  refine (HF.out _).mono ?_
  rintro e w2 ⟨rfl, rfl⟩
  go_wp2_with fail
  refine (HFR.out _ _ [] (EnW.new w1 _)).mono ?_
  rintro e w3 ⟨rfl, ks', hk, _, hkp⟩
  have hn := EnW.new w1 n
  have hb3 := hkp.to_below (by simp) (fun k he => (hn.ex_in k he).1)
  have HB3 : Hid (Below w.heap.size w w3) := Lib.hid ((HB.out.alloc HB.out.size _).trans (hb3.mono (by have := HB.out.size; simp; omega)))
  have HEX3 : Hid (∀ k, Ex w1.heap.size w3 k → w.heap.size ≤ k) := Lib.hid fun k he => by
    have := (hk.ex_in k he).1
    have := HB.out.size
    omega
  have HK3 := Lib.hid hk
  have hB3 : w1.heap.size < w3.heap.size := hk.lt
  clear hb3 hkp hk hn
  obtain ⟨q, hq⟩ : ∃ q, q = swN l := ⟨_, rfl⟩
  have HQ := Lib.hid hq
  rw [← hq]
  clear hq
  have hnot : decide ((200 : Int) < (q : Int)) = false := decide_eq_false (by have h1 := H200.out; have h2 := HQ.out; omega)
  obtain ⟨W3, hW3⟩ : ∃ W3, W3 = w3.alloc (Obj.cells #[.slice none 0 0] 22) := ⟨_, rfl⟩
  have hb3a : Below w3.heap.size w3 W3 := by rw [hW3]; exact (Below.refl _ _).alloc (Nat.le_refl _) _
  have hK3a := HK3.out.below hb3a
  have hO3 : W3.ownsRow 0 22 1 (.slice (some ⟨w3.heap.size, 0, none⟩) 1 1) 1 [.slice none 0 0] := by
    rw [hW3]
    exact ⟨rfl, .inr ⟨w3.heap.size, 1, #[.slice none 0 0], rfl, Nat.zero_le _, heap_alloc_new w3 _, Nat.le_refl _, by decide, rfl, rfl⟩⟩
  have hOE : ¬ Ex w1.heap.size W3 w3.heap.size := fun he => by
    have := HK3.out.ex_old hb3a he
    omega
  have HB3a := Lib.hid (HB3.out.trans (hb3a.mono HB3.out.size))
  have HEX3a : Hid (∀ k, Ex w1.heap.size W3 k → w.heap.size ≤ k) := Lib.hid fun k he => by
    have := (hK3a.ex_in k he).1
    have := HB.out.size
    omega
  have HO3 := Lib.hid hO3
  have HOE := Lib.hid hOE
  have HFR2 := Lib.hid (HFR.out _ W3 ks' hK3a)
  have HW3 := Lib.hid hW3
  have hw1 : w.heap.size ≤ w1.heap.size := HB.out.size
  have hw3 : w3.heap.size < W3.heap.size := by rw [hW3]; simp
  clear hb3a hK3a hO3 hOE hW3 HFR HK3
  go_wp2_with fail
  rw [← HW3.out]
  refine HFR2.out.mono ?_
  rintro e w5 ⟨rfl, ks5, hk5, _, hkp5⟩
  rw [← HQ.out]
  have HO5 := Lib.hid (own_blkS HO3.out fun g hg => hkp5.keep g (HO3.out.lt g hg).2 (by injection hg with hg; have hg : w3.heap.size = g := hg; rw [← hg]; exact HOE.out))
  have HB5 : Hid (Below w.heap.size w w5) := Lib.hid ⟨hkp5.os.trans HB3a.out.os, hkp5.tape.trans HB3a.out.tape, hkp5.output.trans HB3a.out.output, Nat.le_trans HB3a.out.size hkp5.size, fun k hk => (hkp5.keep k (by have := HB3a.out.size; omega) (fun he => by have := HEX3a.out k he; omega)).trans (HB3a.out.block k hk)⟩
  have HK5 := Lib.hid hk5
  have HEX5 : Hid (∀ k, Ex w1.heap.size w5 k → w.heap.size ≤ k) := Lib.hid fun k he => by
    have := (hk5.ex_in k he).1
    omega
  have hw5 : W3.heap.size ≤ w5.heap.size := hkp5.size
  have hc5 := HO5.out.cellAt 0 (by omega)
  have hc5 : w5.cell? ⟨w3.heap.size, 0, none⟩ = some (.slice none 0 0) := hc5
  clear hkp5 hk5 HFR2
  cases d
  · have h0 : q = 0 := by have h1 := HD.out; have h2 := HQ.out; simp at h1; omega
    have hq : ¬ (0 : Int) < (q : Int) := by omega
    have HNIL := Lib.hid (HA2.out rfl)
    clear h0 HA1 HA2 HD HMO
    go_wp2_with fail
    go_ret2
    exact ⟨none, 0, by rw [HNIL.out]; rfl, by rw [HNIL.out]; exact fun k hk => by simp at hk, HB5.out⟩
  · have h0 : 0 < swN l := by have h1 := HD.out; simpa using h1
    have hq : (0 : Int) < (q : Int) := by have := HQ.out; omega
    have hb6 : Below w5.heap.size w5 (w5.alloc (Obj.cells #[] 55)) := (Below.refl _ _).alloc (Nat.le_refl _) _
    have hS : MoS w5.heap.size w1.heap.size n w3.heap.size (.slice none 0 0) [] [] (w5.alloc (Obj.cells #[] 55)) := ⟨⟨ks5, HK5.out.below hb6⟩, own_below HO5.out hb6, PlW.nil _ _⟩
    have hms := (live_ms _ l HG.out (Nat.le_refl _) h0).1
    have hmw := ms_way HG.out
    have hcall := HMO.out (msL l).toNat w5.heap.size w1.heap.size w3.heap.size w5.heap.size 0 _ h0 (by omega) hS (own_noneM w5) (by simp) (by have := H200.out; simp; omega) (by simp; omega)
    rw [← HA1.out rfl] at hcall
    have hcall2 : Calls Tryd.prog 12 #[.pointer (some ⟨w1.heap.size, 0, none⟩), .string (str l), .slice (some ⟨w5.heap.size, 0, none⟩) 0 0, .pointer (some ⟨w3.heap.size, 0, none⟩)] (w5.alloc (Obj.cells #[] 55)) fun e w7 => e = .returned (.tuple #[]) ∧ ∃ A0 cap, w7.cell? ⟨w3.heap.size, 0, none⟩ = some (.slice A0 A.length cap) ∧ NsAt w7 A0 A ∧ Below w.heap.size w w7 := by
      refine hcall.mono ?_
      rintro e w7 ⟨he, vp', vs', a1, a2, _, _⟩
      have hpl : PlW w7 w5.heap.size vp' vs' A := by simpa using a1.pl
      obtain ⟨A0, cap, e1, hns⟩ := hpl.ns
      have hc := a1.out.cellAt 0 (by omega)
      rw [e1] at hc
      have hb56 := HB5.out.trans (hb6.mono HB5.out.size)
      refine ⟨he, A0, cap, hc, hns, ⟨a2.os.trans hb56.os, a2.tape.trans hb56.tape, a2.output.trans hb56.output, Nat.le_trans hb56.size a2.size, fun k hk => (a2.keep k (by have := hb56.size; omega) (fun hx => ?_) (by omega) (by intro e; cases e)).trans (hb56.block k hk)⟩⟩
      have := (HK5.out.below hb6).ex_in k hx
      omega
    have HCALL := Lib.hid hcall2
    clear hcall hcall2 hS hb6 h0 hms hmw HA1 HA2 HD HMO hc5
    go_wp2_with fail
    refine HCALL.out.mono ?_
    rintro e w7 ⟨rfl, A0, cap, hc7, hns7, hb7⟩
    have HNS := Lib.hid hns7
    have HB7 := Lib.hid hb7
    clear hns7 hb7
    go_wp2_with fail
    go_ret2
    exact ⟨A0, cap, rfl, HNS.out, HB7.out⟩
theorem sAllEx_yes (t g f : Int) (w : World) (h : axB t g f = true) :
    Calls Tryd.prog 4 #[.int .i64 t, .int .i64 g, .int .i64 f] w (SxPost (axL t g f) true w) := by
  unfold axB at h
  obtain ⟨hc, h200⟩ := Bool.and_eq_true_iff.1 h
  refine sAllEx_core t g f w hc _ _ rfl (of_decide_eq_true h200) (fun hd => ?_) (fun hd => ?_)
  · unfold axL
    rw [if_pos (of_decide_eq_true hd)]
  · unfold axL
    rw [if_neg (of_decide_eq_false hd)]
set_option maxRecDepth 100000 in
set_option maxHeartbeats 4000000 in
theorem sAllEx_no (t g f : Int) (w : World) (h : axB t g f = false) :
    Calls Tryd.prog 4 #[.int .i64 t, .int .i64 g, .int .i64 f] w (SxPost [] false w) := by
  have HN := Lib.hid (fun wx => swNumbers_any t g f wx)
  cases hc : few t g f
  · have HC := Lib.hid hc
    clear hc h
    go_enter Tryd.func4, Tryd.ntmps4
    go_wp2_with fail
    refine (HN.out _).mono ?_
    rintro e w1 ⟨rfl, hb1⟩
    rw [HC.out]
    have HB := Lib.hid hb1
    clear hb1
    go_wp2_with fail
    go_ret2
    exact ⟨none, 0, rfl, fun k hk => by simp at hk, HB.out⟩
  · have HC := Lib.hid hc
    have hf := (few_iff t g f).1 hc
    have hg := first_goodT hc
    have HF := Lib.hid (fun wx => liFirst_any t g f wx (by omega) (by omega) (by omega))
    have HFR := Lib.hid (fun B W ks hk => from_any _ B _ (firstL t.toNat g.toNat f.toNat) W ks rfl hg hk)
    have HMANY : Hid ((200 : Int) < (swN (firstL t.toNat g.toNat f.toNat) : Int)) := Lib.hid (by
      unfold axB at h
      rw [hc] at h
      simp at h
      omega)
    clear hc hf hg h
    generalize firstL t.toNat g.toNat f.toNat = l at *
    go_enter Tryd.func4, Tryd.ntmps4
    go_wp2_with fail
    refine (HN.out _).mono ?_
    rintro e w1 ⟨rfl, hb1⟩
    rw [HC.out]
    have HB := Lib.hid hb1
    clear hb1
    go_wp2_with fail
    refine (HF.out _).mono ?_
    rintro e w2 ⟨rfl, rfl⟩
    go_wp2_with fail
    refine (HFR.out _ _ [] (EnW.new w1 _)).mono ?_
    rintro e w3 ⟨rfl, ks', hk, _, hkp⟩
    have hn := EnW.new w1 (t + g + f).toNat
    have hb3 := hkp.to_below (by simp) (fun k he => (hn.ex_in k he).1)
    have HB3 : Hid (Below w.heap.size w w3) := Lib.hid ((HB.out.alloc HB.out.size _).trans (hb3.mono (by have := HB.out.size; simp; omega)))
    clear hb3 hkp hk hn
    have hmany := HMANY.out
    clear HMANY
    generalize swN l = q at *
    go_wp2_with fail
    go_ret2
    exact ⟨none, 0, rfl, fun k hk => by simp at hk, HB3.out⟩
end Go.Proofs.YtfiifjcjmnhbnaaDoor
